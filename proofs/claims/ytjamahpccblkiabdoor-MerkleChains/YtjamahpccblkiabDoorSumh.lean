/- The digest (Sum): of any string of at most 4096 bytes the call returns SHA-256 of it as the plain facts have it, and nothing that was there has changed. -/
import Derived.Test.YtjamahpccblkiabDoorEnding
import Derived.Test.YtjamahpccblkiabDoorStarts
import Derived.WalkKit
import Derived.WalkSpells
import Derived.WalkLawsBesides
import Derived.Deep.QuietTactic
import Derived.BigQuiet
import Derived.Deep.RegionWith
import Derived.Deep.RegionHeld3
import Derived.Deep.DrawnRows
namespace Go.Proofs.YtjamahpccblkiabDoor
open Go.RowKit
attribute [local go_sem ↓] Go.wp_at_zero Go.wp_at_succ
theorem eight {W : World} {g : Nat} {X : St} (h : W.heap[g]? = some (.cells (stA X) 61 (0, 0))) :
    (W.cell? ⟨g, 0, none⟩ = some (.int .u32 (n32 X.a)) ∧ W.cell? ⟨g, 1, none⟩ = some (.int .u32 (n32 X.b)) ∧ W.cell? ⟨g, 2, none⟩ = some (.int .u32 (n32 X.c)) ∧ W.cell? ⟨g, 3, none⟩ = some (.int .u32 (n32 X.d)) ∧ W.cell? ⟨g, 4, none⟩ = some (.int .u32 (n32 X.e)) ∧ W.cell? ⟨g, 5, none⟩ = some (.int .u32 (n32 X.f)) ∧ W.cell? ⟨g, 6, none⟩ = some (.int .u32 (n32 X.g)) ∧ W.cell? ⟨g, 7, none⟩ = some (.int .u32 (n32 X.k))) ∧
    (W.frozen? ⟨g, 0, none⟩ = false ∧ W.frozen? ⟨g, 1, none⟩ = false ∧ W.frozen? ⟨g, 2, none⟩ = false ∧ W.frozen? ⟨g, 3, none⟩ = false ∧ W.frozen? ⟨g, 4, none⟩ = false ∧ W.frozen? ⟨g, 5, none⟩ = false ∧ W.frozen? ⟨g, 6, none⟩ = false ∧ W.frozen? ⟨g, 7, none⟩ = false) := by
  refine ⟨⟨cell_of_row W _ 0 _ _ _ h, cell_of_row W _ 1 _ _ _ h, cell_of_row W _ 2 _ _ _ h, cell_of_row W _ 3 _ _ _ h, cell_of_row W _ 4 _ _ _ h, cell_of_row W _ 5 _ _ _ h, cell_of_row W _ 6 _ _ _ h, cell_of_row W _ 7 _ _ _ h⟩, ?_⟩
  refine ⟨?_, ?_, ?_, ?_, ?_, ?_, ?_, ?_⟩ <;> exact frozen_of_row W _ _ _ _ h
theorem rel_mix {w5 : World} {g i : Nat} {B0 H M : St} {s : ByteArray} (hH : blocksB B0 s.data.toList i = H) (h5 : w5.heap[g]? = some (.cells (stA H) 61 (0, 0))) (hM : mixB H (s.extract (i * 64) ((i + 1) * 64)).data.toList = M) :
    (w5.setCells g 0 (stA M).toList).heap[g]? = some (.cells (stA (blocksB B0 s.data.toList (i + 1))) 61 (0, 0)) := by
  rw [setCells_row (vs := stA M) h5 rfl]
  have e1 : (i + 1) * 64 - i * 64 = 64 := by omega
  have e2 : i * 64 = 64 * i := by omega
  rw [Lib.extract_data, e1, e2] at hM
  simp only [blocksB, hH, hM]
theorem below_drew5 {B : Nat} {w wr w5 : World} (hb : Below B w wr) (h : Below wr.drew.heap.size wr.drew w5) (hB : B ≤ wr.heap.size) : Below B w w5 :=
  (below_drewN hb 1).trans (h.mono hB)
theorem lt_of_row {W : World} {g : Nat} {o : Obj} (h1 : W.heap[g]? = some o) : g < W.heap.size := by
  rcases Nat.lt_or_ge g W.heap.size with h | h
  · exact h
  · rw [Array.getElem?_eq_none h] at h1; cases h1
set_option maxHeartbeats 1000000 in
theorem sum_any (s : ByteArray) (hs : s.size ≤ 4096) (w : World) (hG : GL w) :
    Calls Tryd.prog 26 #[.string s] w fun e w' => e = .returned (.string ⟨(sumB s.data.toList).toArray⟩) ∧ Below w.heap.size w w' := by
  go_enter Tryd.func26, Tryd.ntmps26
  go_wp2_with fail
  refine (start_any _).mono ?_
  rintro e w1 ⟨rfl, hb1⟩
  go_wp2_with fail
  have hs1 := hb1.size
  obtain ⟨g, hg⟩ : ∃ g, w1.heap.size = g := ⟨_, rfl⟩
  have start1 : (w1.alloc (.cells (stA startB) 61)).heap[g]? = some (.cells (stA startB) 61 (0, 0)) := by rw [← hg]; exact heap_alloc_new _ _
  have start2 : Below w.heap.size w (w1.alloc (.cells (stA startB) 61)) := hb1.alloc (by omega) _
  rw [hg] at hs1 ⊢
  clear hg
  go_loopw [13] (fun c wr => ∃ i : Nat, i ≤ s.size / 64 ∧ c = .int .i64 i ∧ wr.heap[g]? = some (.cells (stA (blocksB startB s.data.toList i)) 61 (0, 0)) ∧ Below w.heap.size w wr) (fun c _ => s.size / 64 - (intOf c).toNat)
  case atStart => exact ⟨0, Nat.zero_le _, rfl, start1, start2⟩
  case round =>
    clear start1 start2 hb1
    obtain ⟨i, hi, rfl, h1, hb⟩ := hrel
    have hGr := hG.later hb
    by_cases hlt : i < s.size / 64
    · obtain ⟨H, hH⟩ : ∃ H, blocksB startB s.data.toList i = H := ⟨_, rfl⟩
      rw [hH] at h1
      have HH : Hid (blocksB startB s.data.toList i = H) := hH
      clear hH
      have hgl : g < wr.heap.size := lt_of_row h1
      obtain ⟨⟨c0, c1, c2, c3, c4, c5, c6, c7⟩, f0, f1, f2, f3, f4, f5, f6, f7⟩ := eight h1
      have hlt' : (i : Int) < (s.size : Int) / 64 := by omega
      have q0 : (0 : Int) ≤ (i : Int) * 64 := by omega
      have q1 : (i : Int) * 64 ≤ ((i : Int) + 1) * 64 := by omega
      have q2 : ((i : Int) + 1) * 64 ≤ (s.size : Int) := by omega
      have q3 : i * 64 ≤ (i + 1) * 64 := by omega
      have q4 : (i + 1) * 64 ≤ s.size := by omega
      have m0 : IntKind.i64.wrap ((i : Int) * 64) = (i : Int) * 64 := by rw [IntKind.wrap_i64]; omega
      have m1 : IntKind.i64.wrap ((i : Int) + 1) = (i : Int) + 1 := by rw [IntKind.wrap_i64]; omega
      have m2 : IntKind.i64.wrap (((i : Int) + 1) * 64) = ((i : Int) + 1) * 64 := by rw [IntKind.wrap_i64]; omega
      go_wp2_with fail
      go_region_with ((go_at_call 33; refine (mix_any H _ _ (by exact hGr)).mono ?_; rintro e w5 ⟨rfl, hb5⟩; obtain ⟨M, hM⟩ : ∃ M, mixB H (s.extract (i * 64) ((i + 1) * 64)).data.toList = M := ⟨_, rfl⟩; rw [hM]; have HM : Hid (mixB H (s.extract (i * 64) ((i + 1) * 64)).data.toList = M) := hM; clear hM; have h5 := (below_heap hb5 g (by exact hgl)).trans h1; obtain ⟨⟨r0, r1, r2, r3, r4, r5, r6, r7⟩, e0, e1, e2, e3, e4, e5, e6, e7⟩ := eight h5))
      all_goals
        go_wp2
        go_roundw
        case rel => exact ⟨i + 1, by omega, by go_num, rel_mix HH.out h5 HM.out, below_setCells' hs1 (stA M).toList 0 w5 (below_drew5 hb hb5 (by omega))⟩
        case measure => simp [intOf]; omega
    · obtain rfl : i = s.size / 64 := by omega
      have hlt' : ¬ ((s.size / 64 : Nat) : Int) < (s.size : Int) / 64 := by omega
      have hgl : g < wr.heap.size := lt_of_row h1
      go_wp2_with fail
      refine (ending_any _ s.size (by simp; omega) hs wr).mono ?_
      rintro e w6 ⟨rfl, hb6⟩
      obtain ⟨B0, hB0⟩ : ∃ B0, blocksB startB s.data.toList (s.size / 64) = B0 := ⟨_, rfl⟩
      rw [hB0] at h1
      have h6 := (below_heap hb6 g hgl).trans h1
      have hb' : Below w.heap.size w w6 := hb.trans (hb6.mono (by omega))
      have ht : (s.extract (s.size / 64 * 64) s.size).data.toList = s.data.toList.drop (64 * (s.data.toList.length / 64)) := by
        rw [Lib.extract_data, ← Lib.size_eq, Nat.mul_comm 64]
        rw [List.take_of_length_le (by rw [List.length_drop, ← Lib.size_eq]; exact Nat.le_refl _)]
      have hfin := sumB_split s.data.toList
      rw [← ht, ← Lib.size_eq, hB0] at hfin
      have hel := endB_len (s.extract (s.size / 64 * 64) s.size).data.toList s.size (by rw [← Lib.size_eq]; simp; omega)
      obtain ⟨E, hE⟩ : ∃ E : ByteArray, (⟨(endB (s.extract (s.size / 64 * 64) s.size).data.toList s.size).toArray⟩ : ByteArray) = E := ⟨_, rfl⟩
      have hEd : E.data.toList = endB (s.extract (s.size / 64 * 64) s.size).data.toList s.size := by rw [← hE]
      have hEs : E.size ≤ 128 := by rw [Lib.size_eq, hEd, hel]; split <;> omega
      have hE64 : 64 * (E.size / 64) = E.size := by rw [Lib.size_eq, hEd, hel]; split <;> omega
      rw [hE]
      rw [← hEd, ← Lib.size_eq] at hfin
      have HF : Hid (sumB s.data.toList = digB (blocksB B0 E.data.toList (E.size / 64))) := hfin
      have HE : Hid (64 * (E.size / 64) = E.size) := hE64
      clear hfin hE64 hE hEd hel ht hB0 h1 hb hb6 hGr
      go_wp2_with fail
      go_loopw [36] (fun c wr => ∃ i : Nat, i ≤ E.size / 64 ∧ c = .int .i64 i ∧ wr.heap[g]? = some (.cells (stA (blocksB B0 E.data.toList i)) 61 (0, 0)) ∧ Below w.heap.size w wr) (fun c _ => E.size / 64 - (intOf c).toNat)
      case atStart => exact ⟨0, Nat.zero_le _, rfl, h6, hb'⟩
      case round =>
        clear h6 hb' hgl
        obtain ⟨i, hi, rfl, h1, hb⟩ := hrel
        have hGr := hG.later hb
        have hgl : g < wr.heap.size := lt_of_row h1
        by_cases hlt : i < E.size / 64
        · obtain ⟨H, hH⟩ : ∃ H, blocksB B0 E.data.toList i = H := ⟨_, rfl⟩
          rw [hH] at h1
          have HH : Hid (blocksB B0 E.data.toList i = H) := hH
          clear hH
          obtain ⟨⟨c0, c1, c2, c3, c4, c5, c6, c7⟩, f0, f1, f2, f3, f4, f5, f6, f7⟩ := eight h1
          have hlt' : (i : Int) < (E.size : Int) / 64 := by omega
          have q0 : (0 : Int) ≤ (i : Int) * 64 := by omega
          have q1 : (i : Int) * 64 ≤ ((i : Int) + 1) * 64 := by omega
          have q2 : ((i : Int) + 1) * 64 ≤ (E.size : Int) := by omega
          have q3 : i * 64 ≤ (i + 1) * 64 := by omega
          have q4 : (i + 1) * 64 ≤ E.size := by omega
          have m0 : IntKind.i64.wrap ((i : Int) * 64) = (i : Int) * 64 := by rw [IntKind.wrap_i64]; omega
          have m1 : IntKind.i64.wrap ((i : Int) + 1) = (i : Int) + 1 := by rw [IntKind.wrap_i64]; omega
          have m2 : IntKind.i64.wrap (((i : Int) + 1) * 64) = ((i : Int) + 1) * 64 := by rw [IntKind.wrap_i64]; omega
          go_wp2_with fail
          go_region_with ((go_at_call 33; refine (mix_any H _ _ (by exact hGr)).mono ?_; rintro e w5 ⟨rfl, hb5⟩; obtain ⟨M, hM⟩ : ∃ M, mixB H (E.extract (i * 64) ((i + 1) * 64)).data.toList = M := ⟨_, rfl⟩; rw [hM]; have HM : Hid (mixB H (E.extract (i * 64) ((i + 1) * 64)).data.toList = M) := hM; clear hM; have h5 := (below_heap hb5 g (by exact hgl)).trans h1; obtain ⟨⟨r0, r1, r2, r3, r4, r5, r6, r7⟩, e0, e1, e2, e3, e4, e5, e6, e7⟩ := eight h5))
          all_goals
            go_wp2
            go_roundw
            case rel => exact ⟨i + 1, by omega, by go_num, rel_mix HH.out h5 HM.out, below_setCells' hs1 (stA M).toList 0 w5 (below_drew5 hb hb5 (by omega))⟩
            case measure => simp [intOf]; omega
        · obtain rfl : i = E.size / 64 := by omega
          have hlt' : ¬ ((E.size / 64 : Nat) : Int) < (E.size : Int) / 64 := by omega
          obtain ⟨H, hH⟩ : ∃ H, blocksB B0 E.data.toList (E.size / 64) = H := ⟨_, rfl⟩
          have HF' : Hid (sumB s.data.toList = digB H) := by
            show _ = _
            rw [HF.out, hH]
          rw [hH] at h1
          clear hH HF
          obtain ⟨⟨c0, c1, c2, c3, c4, c5, c6, c7⟩, f0, f1, f2, f3, f4, f5, f6, f7⟩ := eight h1
          go_wp2_with fail
          refine (digest_any H _).mono ?_
          rintro e w7 ⟨rfl, hb7⟩
          go_wp2
          go_ret
          rw [HF'.out]
          exact ⟨rfl, hb.trans (hb7.mono (by omega))⟩
end Go.Proofs.YtjamahpccblkiabDoor
