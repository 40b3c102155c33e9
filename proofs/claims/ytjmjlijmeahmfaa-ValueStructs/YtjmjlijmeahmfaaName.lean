/- Whether a text may be a name (Name, letter, digit). -/
import Derived.Test.YtjmjlijmeahmfaaFst
import Derived.BigGuardPart
namespace Go.Proofs.Ytjmjlijmeahmfaa
open Go.RowKit
def digitB (x : Int) : Bool := decide (48 ≤ x) && decide (x ≤ 57)
def letterB (x : Int) : Bool := decide (97 ≤ x) && decide (x ≤ 122) || decide (65 ≤ x) && decide (x ≤ 90)
set_option maxHeartbeats 400000 in
theorem digit_any (x : Int) (w : World) : Calls Try.prog 59 #[.int .u8 x] w fun e w' => e = .returned (.bool (digitB x)) ∧ w' = w := by
  obtain ⟨F, hF⟩ : ∃ F, digitB x = F := ⟨_, rfl⟩
  rw [hF]
  have HF : Hid (digitB x = F) := hF
  clear hF
  go_enter Try.func59, Try.ntmps59
  go_wp2
  all_goals
    go_ret
    refine ⟨?_, rfl⟩
    have := HF.out
    unfold digitB at this
    subst this
    simp_all
  all_goals (first | (intros; omega) | (constructor <;> intros <;> omega) | (rw [Bool.eq_iff_iff]; simp; try (intros; omega)))
set_option maxHeartbeats 400000 in
theorem letter_any (x : Int) (w : World) : Calls Try.prog 60 #[.int .u8 x] w fun e w' => e = .returned (.bool (letterB x)) ∧ w' = w := by
  obtain ⟨F, hF⟩ : ∃ F, letterB x = F := ⟨_, rfl⟩
  rw [hF]
  have HF : Hid (letterB x = F) := hF
  clear hF
  go_enter Try.func60, Try.ntmps60
  go_wp2
  all_goals
    go_ret
    refine ⟨?_, rfl⟩
    have := HF.out
    unfold letterB at this
    subst this
    simp_all
  all_goals (first | (intros; omega) | (constructor <;> intros <;> omega) | (rw [Bool.eq_iff_iff]; simp; try (intros; omega)))
def chr (s : ByteArray) (i : Nat) : Int := (byteAt s i : Int)
theorem chr_eq (s : ByteArray) (i : Nat) (h : i < s.size) : ((s[i].toNat : Nat) : Int) = chr s i := by
  unfold chr byteAt
  have hl : i < s.data.toList.length := by rw [← Lib.size_eq]; exact h
  rw [List.getD_eq_getElem?_getD, List.getElem?_eq_getElem hl]
  rfl
def okB (x : Int) : Bool := letterB x || digitB x || decide (x = 95)
def nameB (s : ByteArray) : Bool := decide (0 < s.size) && decide (s.size ≤ 16) && !digitB (chr s 0) && decide (∀ i, i < s.size → okB (chr s i) = true)
theorem empty_size (s : ByteArray) : s.toList.isEmpty = decide (s.size = 0) := by
  rw [Lib.toList_data]
  have := Lib.size_eq s
  cases h : s.data.toList with
  | nil => rw [h] at this; simp at this; simp [this]
  | cons a l => rw [h] at this; simp at this; simp [this]
theorem nameB_no {s : ByteArray} {i : Nat} (h : i < s.size) (h1 : letterB (chr s i) = false) (h2 : digitB (chr s i) = false) (h3 : (chr s i != 95) = true) : nameB s = false := by
  have : decide (∀ i, i < s.size → okB (chr s i) = true) = false := by
    rw [decide_eq_false_iff_not]
    intro hh
    have := hh i h
    unfold okB at this
    rw [h1, h2] at this
    simp_all
  unfold nameB
  rw [this, Bool.and_false]
theorem nameB_yes {s : ByteArray} (h0 : 0 < s.size) (h1 : s.size ≤ 16) (h2 : digitB (chr s 0) = false) (h3 : ∀ i, i < s.size → okB (chr s i) = true) : nameB s = true := by
  unfold nameB
  rw [h2, decide_eq_true h0, decide_eq_true h1, decide_eq_true h3]; rfl
theorem okB_step {s : ByteArray} {i : Nat} (h : ∀ j, j < i → okB (chr s j) = true) (h1 : okB (chr s i) = true) : ∀ j, j < i + 1 → okB (chr s j) = true := fun j hj => by
  rcases Nat.lt_or_ge j i with k | k
  · exact h j k
  · obtain rfl : j = i := by omega
    exact h1
set_option maxHeartbeats 1000000 in
theorem name_in (s : ByteArray) (h2 : 0 < s.size) (h1 : s.size ≤ 16) (w : World) : Calls Try.prog 26 #[.string s] w fun e w' => e = .returned (.bool (nameB s)) ∧ w' = w := by
  have h0 : s.toList.isEmpty = false := by rw [empty_size]; exact decide_eq_false (by omega)
  have h1' : (s.size : Int) ≤ 16 := by omega
  have h2' : 0 < (s.size : Int) := by omega
  obtain ⟨F, hF⟩ : ∃ F, nameB s = F := ⟨_, rfl⟩
  rw [hF]
  have HF : Hid (nameB s = F) := hF
  clear hF
  go_enter Try.func26, Try.ntmps26
  go_wp2_with fail
  refine (digit_any _ _).mono ?_
  rintro e w ⟨rfl, rfl⟩
  rw [chr_eq s 0 h2]
  cases hd : digitB (chr s 0) with
  | true =>
    go_wp2
    go_ret
    refine ⟨?_, rfl⟩
    have := HF.out
    unfold nameB at this
    rw [hd, Bool.not_true, Bool.and_false, Bool.false_and] at this
    rw [← this]
    rfl
  | false =>
    have HD : Hid (digitB (chr s 0) = false) := hd
    clear hd
    go_wp2_with fail
    go_loopw [18] (fun c18 wr => ∃ i : Nat, i ≤ s.size ∧ c18 = .int .i64 (i : Int) ∧ (∀ j, j < i → okB (chr s j) = true) ∧ wr = w) (fun c18 _ => s.size - (intOf c18).toNat)
    case atStart => exact ⟨0, by omega, rfl, fun j hj => by omega, rfl⟩
    case round =>
      obtain ⟨i, hi, rfl, hj, rfl⟩ := hrel
      have HJ : Hid (∀ j, j < i → okB (chr s j) = true) := hj
      clear hj
      go_wp2_with (first | (go_at_call 59; refine (digit_any _ _).mono ?_; rintro e w ⟨rfl, rfl⟩) | (go_at_call 60; refine (letter_any _ _).mono ?_; rintro e w ⟨rfl, rfl⟩))
      · have a1 : i < s.size := by assumption
        have a2 : letterB (chr s i) = false := by rw [← chr_eq s i a1]; assumption
        have a3 : digitB (chr s i) = false := by rw [← chr_eq s i a1]; assumption
        have a4 : (chr s i != 95) = true := by rw [← chr_eq s i a1]; assumption
        go_ret
        exact ⟨by rw [← HF.out, nameB_no a1 a2 a3 a4]; rfl, rfl⟩
      · have a1 : i < s.size := by assumption
        have a4 : (chr s i != 95) = false := by rw [← chr_eq s i a1]; assumption
        go_roundw
        case rel =>
          refine ⟨i + 1, by omega, by go_num, okB_step HJ.out ?_, by trivial⟩
          unfold okB
          rw [bne_eq_false_iff_eq] at a4
          rw [a4]; rfl
        case measure => simp [intOf]; omega
      · have a1 : i < s.size := by assumption
        have a3 : digitB (chr s i) = true := by rw [← chr_eq s i a1]; assumption
        go_roundw
        case rel =>
          refine ⟨i + 1, by omega, by go_num, okB_step HJ.out ?_, by trivial⟩
          unfold okB
          rw [a3]; simp
        case measure => simp [intOf]; omega
      · have a1 : i < s.size := by assumption
        have a2 : letterB (chr s i) = true := by rw [← chr_eq s i a1]; assumption
        go_roundw
        case rel =>
          refine ⟨i + 1, by omega, by go_num, okB_step HJ.out ?_, by trivial⟩
          unfold okB
          rw [a2]; simp
        case measure => simp [intOf]; omega
      · go_ret
        obtain rfl : i = s.size := by omega
        exact ⟨by rw [← HF.out, nameB_yes h2 h1 HD.out HJ.out]; rfl, rfl⟩
set_option maxHeartbeats 1000000 in
theorem name_any (s : ByteArray) (w : World) : Calls Try.prog 26 #[.string s] w fun e w' => e = .returned (.bool (nameB s)) ∧ w' = w := by
  by_cases h2 : 0 < s.size
  · by_cases h1 : s.size ≤ 16
    · exact name_in s h2 h1 w
    · have hN : nameB s = false := by unfold nameB; rw [decide_eq_false h1]; simp
      rw [hN]
      clear hN
      have h0 : s.toList.isEmpty = false := by rw [empty_size]; exact decide_eq_false (by omega)
      have h1' : ¬ (s.size : Int) ≤ 16 := by omega
      have h1'' : (16 : Int) < (s.size : Int) := by omega
      go_enter Try.func26, Try.ntmps26
      go_wp2
      go_ret
      exact ⟨rfl, rfl⟩
  · have hN : nameB s = false := by unfold nameB; rw [decide_eq_false h2]; simp
    rw [hN]
    clear hN
    have h0 : s.toList.isEmpty = true := by rw [empty_size]; exact decide_eq_true (by omega)
    go_enter Try.func26, Try.ntmps26
    go_wp2
    go_ret
    exact ⟨rfl, rfl⟩
end Go.Proofs.Ytjmjlijmeahmfaa
