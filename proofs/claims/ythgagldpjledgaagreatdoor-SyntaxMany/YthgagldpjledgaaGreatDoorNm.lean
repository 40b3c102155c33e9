/- Whether a text is a name of value's (value.Name). -/
import Derived.Test.YthgagldpjledgaaGreatDoorCh
namespace Go.Proofs.YthgagldpjledgaaGreatDoor
open Go.RowKit Go.Shelf
def okB (x : Int) : Bool := letB x || digitB x || decide (x = 95)
def nameB (s : ByteArray) : Bool := decide (0 < s.size) && decide (s.size ≤ 16) && !digitB (chr s 0) && decide (∀ i, i < s.size → okB (chr s i) = true)
theorem empty_size (s : ByteArray) : s.toList.isEmpty = decide (s.size = 0) := by
  rw [Lib.toList_data]
  have := Lib.size_eq s
  cases h : s.data.toList with
  | nil => rw [h] at this; simp at this; simp [this]
  | cons a l => rw [h] at this; simp at this; simp [this]
theorem nameB_no {s : ByteArray} {i : Nat} (h : i < s.size) (h1 : letB (chr s i) = false) (h2 : digitB (chr s i) = false) (h3 : (chr s i != 95) = true) : nameB s = false := by
  have : decide (∀ i, i < s.size → okB (chr s i) = true) = false := by
    rw [decide_eq_false_iff_not]
    intro hh
    have := hh i h
    unfold okB at this
    rw [h1, h2] at this
    simp_all
  unfold nameB
  rw [this, Bool.and_false]
theorem nameB_yes {s : ByteArray} (h0 : 0 < s.size) (h1 : s.size ≤ 16) (h2 : digitB (chr s 0) = false) (h3 : ∀ i, i < s.size → okB (chr s i) = true) : nameB s = true := by
  unfold nameB
  rw [h2, decide_eq_true h0, decide_eq_true h1, decide_eq_true h3]; rfl
theorem okB_step {s : ByteArray} {i : Nat} (h : ∀ j, j < i → okB (chr s j) = true) (h1 : okB (chr s i) = true) : ∀ j, j < i + 1 → okB (chr s j) = true := fun j hj => by
  rcases Nat.lt_or_ge j i with k | k
  · exact h j k
  · obtain rfl : j = i := by omega
    exact h1
set_option maxHeartbeats 1000000 in
theorem name_in (s : ByteArray) (h2 : 0 < s.size) (h1 : s.size ≤ 16) (w : World) : Calls Tryz.prog 86 #[.string s] w fun e w' => e = .returned (.bool (nameB s)) ∧ w' = w := by
  have h0 : s.toList.isEmpty = false := by rw [empty_size]; exact decide_eq_false (by omega)
  have h1' : (s.size : Int) ≤ 16 := by omega
  have h2' : 0 < (s.size : Int) := by omega
  obtain ⟨F, hF⟩ : ∃ F, nameB s = F := ⟨_, rfl⟩
  rw [hF]
  have HF : Hid (nameB s = F) := hF
  clear hF
  go_enter Tryz.func86, Tryz.ntmps86
  go_wp2_with fail
  refine (vdigit_any _ _).mono ?_
  rintro e w ⟨rfl, rfl⟩
  rw [chr_eq s 0 h2]
  cases hd : digitB (chr s 0) with
  | true =>
    go_wp2
    go_ret
    refine ⟨?_, rfl⟩
    have := HF.out
    unfold nameB at this
    rw [hd, Bool.not_true, Bool.and_false, Bool.false_and] at this
    rw [← this]
    rfl
  | false =>
    have HD : Hid (digitB (chr s 0) = false) := hd
    clear hd
    go_wp2_with fail
    go_loopw [18] (fun c18 wr => ∃ i : Nat, i ≤ s.size ∧ c18 = .int .i64 (i : Int) ∧ (∀ j, j < i → okB (chr s j) = true) ∧ wr = w) (fun c18 _ => s.size - (intOf c18).toNat)
    case atStart => exact ⟨0, by omega, rfl, fun j hj => by omega, rfl⟩
    case round =>
      obtain ⟨i, hi, rfl, hj, rfl⟩ := hrel
      have HJ : Hid (∀ j, j < i → okB (chr s j) = true) := hj
      clear hj
      go_wp2_with (first | (go_at_call 108; refine (vdigit_any _ _).mono ?_; rintro e w ⟨rfl, rfl⟩) | (go_at_call 109; refine (vletter_any _ _).mono ?_; rintro e w ⟨rfl, rfl⟩))
      · have a1 : i < s.size := by assumption
        have a2 : letB (chr s i) = false := by rw [← chr_eq s i a1]; assumption
        have a3 : digitB (chr s i) = false := by rw [← chr_eq s i a1]; assumption
        have a4 : (chr s i != 95) = true := by rw [← chr_eq s i a1]; assumption
        go_ret
        exact ⟨by rw [← HF.out, nameB_no a1 a2 a3 a4]; rfl, rfl⟩
      · have a1 : i < s.size := by assumption
        have a4 : (chr s i != 95) = false := by rw [← chr_eq s i a1]; assumption
        go_roundw
        case rel =>
          refine ⟨i + 1, by omega, by go_num, okB_step HJ.out ?_, by trivial⟩
          unfold okB
          rw [bne_eq_false_iff_eq] at a4
          rw [a4]; rfl
        case measure => simp [intOf]; omega
      · have a1 : i < s.size := by assumption
        have a3 : digitB (chr s i) = true := by rw [← chr_eq s i a1]; assumption
        go_roundw
        case rel =>
          refine ⟨i + 1, by omega, by go_num, okB_step HJ.out ?_, by trivial⟩
          unfold okB
          rw [a3]; simp
        case measure => simp [intOf]; omega
      · have a1 : i < s.size := by assumption
        have a2 : letB (chr s i) = true := by rw [← chr_eq s i a1]; assumption
        go_roundw
        case rel =>
          refine ⟨i + 1, by omega, by go_num, okB_step HJ.out ?_, by trivial⟩
          unfold okB
          rw [a2]; simp
        case measure => simp [intOf]; omega
      · go_ret
        obtain rfl : i = s.size := by omega
        exact ⟨by rw [← HF.out, nameB_yes h2 h1 HD.out HJ.out]; rfl, rfl⟩
set_option maxHeartbeats 1000000 in
theorem name_any (s : ByteArray) (w : World) : Calls Tryz.prog 86 #[.string s] w fun e w' => e = .returned (.bool (nameB s)) ∧ w' = w := by
  by_cases h2 : 0 < s.size
  · by_cases h1 : s.size ≤ 16
    · exact name_in s h2 h1 w
    · have hN : nameB s = false := by unfold nameB; rw [decide_eq_false h1]; simp
      rw [hN]
      clear hN
      have h0 : s.toList.isEmpty = false := by rw [empty_size]; exact decide_eq_false (by omega)
      have h1' : ¬ (s.size : Int) ≤ 16 := by omega
      have h1'' : (16 : Int) < (s.size : Int) := by omega
      go_enter Tryz.func86, Tryz.ntmps86
      go_wp2
      go_ret
      exact ⟨rfl, rfl⟩
  · have hN : nameB s = false := by unfold nameB; rw [decide_eq_false h2]; simp
    rw [hN]
    clear hN
    have h0 : s.toList.isEmpty = true := by rw [empty_size]; exact decide_eq_true (by omega)
    go_enter Tryz.func86, Tryz.ntmps86
    go_wp2
    go_ret
    exact ⟨rfl, rfl⟩
theorem nameB_run {s : ByteArray} (h0 : 0 < s.size) (h1 : digitB (chr s 0) = false) (h2 : ∀ c ∈ s.data.toList, inNameB (c.toNat : Int) = true) : nameB s = decide (s.size ≤ 16) := by
  have h3 : decide (∀ i, i < s.size → okB (chr s i) = true) = true := by
    refine decide_eq_true (fun i hi => ?_)
    obtain ⟨c, hc, he⟩ := at_chr hi
    rw [he]
    exact h2 c (List.mem_of_getElem? hc)
  unfold nameB
  rw [h1, h3, decide_eq_true h0]
  simp
end Go.Proofs.YthgagldpjledgaaGreatDoor
