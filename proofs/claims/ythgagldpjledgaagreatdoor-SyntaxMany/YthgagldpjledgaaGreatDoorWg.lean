/- Words that are names, keys and signs (nameWord, signWord). -/
import Derived.Test.YthgagldpjledgaaGreatDoorWf
namespace Go.Proofs.YthgagldpjledgaaGreatDoor
open Go.RowKit Go.Shelf
def nameA (l : List UInt8) : Fo := if keyB (l.take (runL inNameB l)) = true then some (2, l.take (runL inNameB l), runL inNameB l) else if (l.take (runL inNameB l)).length ≤ 16 then some (1, l.take (runL inNameB l), runL inNameB l) else none
set_option maxRecDepth 20000 in
set_option maxHeartbeats 4000000 in
theorem nameWord_any (s : ByteArray) (hs : s.size ≤ 10000) (h0 : 0 < s.size) (hd : digitB (chr s 0) = false) (hi : inNameB (chr s 0) = true) (w : World) :
    Calls Tryz.prog 56 #[.string s] w fun e w' => e = .returned (wV (nameA s.data.toList)) ∧ Below w.heap.size w w' := by
  have hr := run_any 54 inNameB en21 inName_any s (by omega)
  have hl := Lib.size_eq s
  have hle := runL_le inNameB s.data.toList
  have hpos : 0 < runL inNameB s.data.toList := by
    obtain ⟨c, hc, he⟩ := at_chr h0
    rw [he] at hi
    have := drop_at hc
    rw [List.drop_zero] at this
    rw [this, runL_pos _ _ hi]
    omega
  have hk := key_any (s.extract 0 (runL inNameB s.data.toList))
  have hn := name_any (s.extract 0 (runL inNameB s.data.toList))
  have hsz : (s.extract 0 (runL inNameB s.data.toList)).size = runL inNameB s.data.toList := by rw [ByteArray.size_extract]; omega
  have hnm : nameB (s.extract 0 (runL inNameB s.data.toList)) = decide (runL inNameB s.data.toList ≤ 16) := by
    rw [nameB_run (by omega), hsz]
    · rw [← hd]
      unfold chr
      rw [ext_take, List.getD_eq_getElem?_getD, List.getD_eq_getElem?_getD, List.getElem?_take, if_pos hpos]
    · rw [ext_take]
      exact runL_take inNameB _
  rw [hnm] at hn
  have hb : s.extract 0 (runL inNameB s.data.toList) = ⟨(s.data.toList.take (runL inNameB s.data.toList)).toArray⟩ := ba_eq (ext_take _ _)
  have hV : wV (nameA s.data.toList) = if keyB (s.extract 0 (runL inNameB s.data.toList)).data.toList = true then .tuple #[.agg #[.int .i64 2, .string (s.extract 0 (runL inNameB s.data.toList)), .int .i64 0], .int .i64 (runL inNameB s.data.toList : Int)] else if runL inNameB s.data.toList ≤ 16 then .tuple #[.agg #[.int .i64 1, .string (s.extract 0 (runL inNameB s.data.toList)), .int .i64 0], .int .i64 (runL inNameB s.data.toList : Int)] else wV none := by
    unfold nameA
    rw [hb, List.length_take, Nat.min_eq_left hle]
    show _ = if keyB ((s.data.toList.take (runL inNameB s.data.toList)).toArray.toList) = true then _ else _
    rw [List.toList_toArray]
    split
    · rfl
    · split <;> rfl
  obtain ⟨V, hVV⟩ : ∃ V, wV (nameA s.data.toList) = V := ⟨_, rfl⟩
  rw [hVV] at hV ⊢
  obtain ⟨K, hK⟩ : ∃ K, keyB (s.extract 0 (runL inNameB s.data.toList)).data.toList = K := ⟨_, rfl⟩
  rw [hK] at hV hk
  clear hK hVV hb hsz hnm hd hi
  obtain ⟨r, hrr⟩ : ∃ r, runL inNameB s.data.toList = r := ⟨_, rfl⟩
  rw [hrr] at hr hle hpos hk hn hV
  have hrs : (r : Int) ≤ (s.size : Int) := by omega
  clear hrr hle hl
  go_enter Tryz.func56, Tryz.ntmps56
  go_wp2_with fail
  refine (hr _).mono ?_
  rintro e w2 ⟨rfl, rfl⟩
  obtain ⟨w1, hw1⟩ : ∃ w1, w1 = w.alloc (.cells #[.int .i64 0, .string ⟨#[]⟩, .int .i64 0] 46) := ⟨_, rfl⟩
  have hz : Z3 w1 w.heap.size 46 := by rw [hw1]; exact Z3.new w 46
  have hB : Below w.heap.size w w1 := by rw [hw1]; exact (Below.refl _ w).alloc (Nat.le_refl _) _
  have f0 := frozen_of_row w1 _ 0 _ _ hz
  have f1 := frozen_of_row w1 _ 1 _ _ hz
  have f2 := frozen_of_row w1 _ 2 _ _ hz
  have c0 := cell_of_row w1 _ 0 _ _ _ hz
  have c1 := cell_of_row w1 _ 1 _ _ _ hz
  have c2 := cell_of_row w1 _ 2 _ _ _ hz
  rw [← hw1]
  clear hw1
  go_wp2_with fail
  refine (hk _).mono ?_
  rintro e w3 ⟨rfl, rfl⟩
  cases K with
  | true =>
    rw [if_pos rfl] at hV
    have HV : Hid (V = _) := hV
    clear hV
    go_wp2
    refine bodyPost_ret (results_row_tmp Tryz.results56 _ _ w.heap.size 46 _ (0, 0) _ rfl (set3_row hz _ _ _) Tryz.underlying46 rfl (by kernel_rfl)) rfl ⟨?_, set3_below hB _ (Nat.le_refl _) _ _ _⟩
    rw [HV.out]
    rfl
  | false =>
    rw [if_neg (by simp)] at hV
    by_cases h16 : r ≤ 16
    · rw [if_pos h16] at hV
      rw [decide_eq_true h16] at hn
      have HV : Hid (V = _) := hV
      clear hV
      go_wp2_with (go_at_call 86; refine (hn _).mono ?_; rintro e w4 ⟨rfl, rfl⟩)
      refine bodyPost_ret (results_row_tmp Tryz.results56 _ _ w.heap.size 46 _ (0, 0) _ rfl (set3_row hz _ _ _) Tryz.underlying46 rfl (by kernel_rfl)) rfl ⟨?_, set3_below hB _ (Nat.le_refl _) _ _ _⟩
      rw [HV.out]
      rfl
    · rw [if_neg h16] at hV
      rw [decide_eq_false h16] at hn
      have HV : Hid (V = _) := hV
      clear hV
      go_wp2_with (go_at_call 86; refine (hn _).mono ?_; rintro e w4 ⟨rfl, rfl⟩)
      refine bodyPost_ret (results_row_tmp Tryz.results56 _ _ w.heap.size 46 _ (0, 0) _ rfl (set3_row hz _ _ _) Tryz.underlying46 rfl (by kernel_rfl)) rfl ⟨?_, set3_below hB _ (Nat.le_refl _) _ _ _⟩
      rw [HV.out]
      rfl
end Go.Proofs.YthgagldpjledgaaGreatDoor
