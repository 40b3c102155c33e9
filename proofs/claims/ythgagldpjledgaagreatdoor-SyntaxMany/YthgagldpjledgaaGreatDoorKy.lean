/- Which words are the language's own (Key, the document's Key). -/
import Derived.Test.YthgagldpjledgaaGreatDoorCh
namespace Go.Proofs.YthgagldpjledgaaGreatDoor
open Go.RowKit Go.Shelf
set_option maxRecDepth 20000 in
set_option maxHeartbeats 4000000 in
theorem key_any (s : ByteArray) (w : World) : Calls Tryz.prog 85 #[.string s] w fun e w' => e = .returned (.bool (keyB s.data.toList)) ∧ w' = w := by
  obtain ⟨F, hF⟩ : ∃ F, keyB s.data.toList = F := ⟨_, rfl⟩
  rw [hF]
  have HF : Hid (keyB s.data.toList = F) := hF
  clear hF
  go_enter Tryz.func85, Tryz.ntmps85
  go_wp2
  all_goals
    go_ret
    refine ⟨?_, rfl⟩
    rw [← HF.out]
    simp only [keyB, keysL, List.contains_cons, List.contains_nil, ← Lib.toList_data]
    simp_all
theorem keyB_eq (l : List UInt8) : keyB l = decide (∃ i, i < 26 ∧ keysL[i]? = some l) := by
  unfold keyB
  rw [Bool.eq_iff_iff, List.contains_iff_mem, decide_eq_true_iff]
  refine ⟨fun h => ?_, fun ⟨i, _, h⟩ => List.mem_of_getElem? h⟩
  obtain ⟨i, hi, he⟩ := List.mem_iff_getElem.1 h
  exact ⟨i, hi, by rw [List.getElem?_eq_getElem hi, he]⟩
def keysV : List Value := keysL.map fun l => Value.string ⟨l.toArray⟩
theorem keysV_at {i : Nat} (h : i < 26) : ∃ l, keysL[i]? = some l ∧ keysV[i]? = some (.string ⟨l.toArray⟩) := by
  have hl : i < keysL.length := h
  exact ⟨_, List.getElem?_eq_getElem hl, by unfold keysV; rw [List.getElem?_map, List.getElem?_eq_getElem hl]; rfl⟩
theorem str_data (s : ByteArray) (l : List UInt8) : (l == s.toList) = decide (l = s.data.toList) := by
  rw [Lib.toList_data]
  by_cases h : l = s.data.toList
  · simp [h]
  · simp [h]
set_option maxRecDepth 20000 in
set_option maxHeartbeats 4000000 in
theorem rkey_any (s : ByteArray) (w : World) : Calls Tryz.prog 75 #[.string s] w fun e w' => e = .returned (.bool (keyB s.data.toList)) ∧ Below w.heap.size w w' := by
  obtain ⟨F, hF⟩ : ∃ F, keyB s.data.toList = F := ⟨_, rfl⟩
  rw [hF]
  have HF : Hid (keyB s.data.toList = F) := hF
  clear hF
  obtain ⟨W, hW⟩ : ∃ W, W = w.alloc (.cells keysV.toArray 9) := ⟨_, rfl⟩
  have hB : Below w.heap.size w W := by rw [hW]; exact (Below.refl _ w).alloc (Nat.le_refl _) _
  have hrow : W.heap[w.heap.size]? = some (.cells keysV.toArray 9 (0, 0)) := by rw [hW]; exact heap_alloc_new w _
  have HW : Hid (W = w.alloc (.cells keysV.toArray 9)) := hW
  clear hW
  go_enter Tryz.func75, Tryz.ntmps75
  go_wp2
  rw [← show W = w.alloc (.cells #[.string ⟨#[65, 78, 68]⟩, .string ⟨#[66, 89]⟩, .string ⟨#[67, 79, 85, 78, 84]⟩, .string ⟨#[67, 82, 69, 65, 84, 69]⟩, .string ⟨#[68, 69, 76, 69, 84, 69]⟩, .string ⟨#[68, 69, 83, 67]⟩, .string ⟨#[70, 65, 76, 83, 69]⟩, .string ⟨#[70, 82, 79, 77]⟩, .string ⟨#[72, 73, 83, 84, 79, 82, 89]⟩, .string ⟨#[73, 78, 68, 69, 88]⟩, .string ⟨#[73, 78, 83, 69, 82, 84]⟩, .string ⟨#[73, 78, 84, 79]⟩, .string ⟨#[73, 83]⟩, .string ⟨#[76, 73, 77, 73, 84]⟩, .string ⟨#[78, 79, 84]⟩, .string ⟨#[78, 85, 76, 76]⟩, .string ⟨#[79, 78]⟩, .string ⟨#[79, 82]⟩, .string ⟨#[79, 82, 68, 69, 82]⟩, .string ⟨#[83, 69, 76, 69, 67, 84]⟩, .string ⟨#[83, 69, 84]⟩, .string ⟨#[84, 65, 66, 76, 69]⟩, .string ⟨#[84, 82, 85, 69]⟩, .string ⟨#[85, 80, 68, 65, 84, 69]⟩, .string ⟨#[86, 65, 76, 85, 69]⟩, .string ⟨#[87, 72, 69, 82, 69]⟩] 9) from HW.out]
  go_loopw [4] (fun c4 wr => ∃ i : Nat, i ≤ 26 ∧ c4 = .int .i64 (i : Int) ∧ (∀ j, j < i → keysL[j]? ≠ some s.data.toList) ∧ wr = W) (fun c4 _ => 26 - (intOf c4).toNat)
  case atStart => exact ⟨0, by omega, rfl, fun j hj => by omega, rfl⟩
  case round =>
    obtain ⟨i, hi, rfl, hj, hw⟩ := hrel
    have hw' := hw.symm
    subst hw'
    have HJ : Hid (∀ j, j < i → keysL[j]? ≠ some s.data.toList) := hj
    clear hj
    by_cases hlt : i < 26
    · have hlt' : (i : Int) < 26 := by omega
      obtain ⟨l, hl, hv⟩ := keysV_at hlt
      have HL : Hid (keysL[i]? = some l) := hl
      have hc : W.cell? ⟨w.heap.size, i, none⟩ = some (.string ⟨l.toArray⟩) := by
        rw [cell_of_row W _ i _ _ _ hrow]
        simpa using hv
      clear hl hv
      by_cases he : l = s.data.toList
      · have h1 : (l == s.toList) = true := by rw [str_data]; exact decide_eq_true he
        have HE : Hid (l = s.data.toList) := he
        clear he
        go_wp2
        go_ret
        refine ⟨?_, hB⟩
        rw [← HF.out, keyB_eq, decide_eq_true ⟨i, hlt, by rw [HL.out, HE.out]⟩]
        rfl
      · have h1 : (l == s.toList) = false := by rw [str_data]; exact decide_eq_false he
        have HE : Hid (¬ l = s.data.toList) := he
        clear he
        go_wp2
        go_roundw
        case rel =>
          refine ⟨i + 1, by omega, by go_num, fun j hj => ?_, by trivial⟩
          rcases Nat.lt_or_ge j i with k | k
          · exact HJ.out j k
          · obtain rfl : j = i := by omega
            rw [HL.out]
            exact fun e => HE.out (Option.some.inj e)
        case measure => simp [intOf]; omega
    · have hlt' : ¬ (i : Int) < 26 := by omega
      go_wp2
      go_ret
      refine ⟨?_, hB⟩
      rw [← HF.out, keyB_eq, decide_eq_false]
      · rfl
      · rintro ⟨j, hj, he⟩
        exact HJ.out j (by omega) he
end Go.Proofs.YthgagldpjledgaaGreatDoor
