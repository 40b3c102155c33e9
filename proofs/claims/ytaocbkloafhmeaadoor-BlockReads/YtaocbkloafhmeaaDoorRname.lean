/- Whether a text may be a name, as the document has it (its Name): the call returns what the program's does, and nothing that was there has changed. -/
import Derived.Test.YtaocbkloafhmeaaDoorName
import Derived.Deep.DeepCutAuto
import Derived.Deep.CutRange
namespace Go.Proofs.YtaocbkloafhmeaaDoor
open Go.RowKit
def letUB (x : Int) : Bool := decide (x = 95) || letterB x
theorem chr_range (s : ByteArray) (i : Nat) (h : i < s.size) : 0 ≤ chr s i ∧ chr s i < 256 := by
  rw [← chr_eq s i h]
  have := s[i].toNat_lt
  omega
theorem okB_of {x : Int} (h : letUB x = true ∨ digitB x = true) : okB x = true := by
  unfold letUB at h
  unfold okB
  rcases h with h | h
  · rcases Bool.or_eq_true _ _ ▸ h with h | h
    · rw [h]; simp
    · rw [h]; simp
  · rw [h]; simp
theorem okB_not {x : Int} (h1 : letUB x = false) (h2 : digitB x = false) : okB x = false := by
  unfold letUB at h1
  unfold okB
  rw [Bool.or_eq_false_iff] at h1
  rw [h1.1, h1.2, h2]; rfl
theorem ok_step {s : ByteArray} {i : Nat} (h : ∀ j, j < i → (letUB (chr s j) || (digitB (chr s j) && decide (0 < j))) = true) (h1 : (letUB (chr s i) || (digitB (chr s i) && decide (0 < i))) = true) :
    ∀ j, j < i + 1 → (letUB (chr s j) || (digitB (chr s j) && decide (0 < j))) = true := fun j hj => by
  by_cases hij : j < i
  · exact h j hij
  · obtain rfl : j = i := by omega
    exact h1
theorem name_digit {s : ByteArray} (h : digitB (chr s 0) = true) : nameB s = false := by
  unfold nameB; rw [h]; simp
theorem name_bad {s : ByteArray} {i : Nat} (h : i < s.size) (hb : okB (chr s i) = false) : nameB s = false := by
  unfold nameB
  rw [decide_eq_false (p := ∀ i, i < s.size → okB (chr s i) = true) (fun hh => by have := hh i h; rw [hb] at this; cases this)]
  simp
theorem digit_letter {x : Int} (h : letUB x = true) : digitB x = false := by
  simp only [letUB, letterB, Bool.or_eq_true, Bool.and_eq_true, decide_eq_true_eq] at h
  unfold digitB
  rw [Bool.and_eq_false_iff, decide_eq_false_iff_not, decide_eq_false_iff_not]
  omega
theorem name_all {s : ByteArray} (h : ∀ j, j < s.size → (letUB (chr s j) || (digitB (chr s j) && decide (0 < j))) = true) : nameB s = (decide (0 < s.size) && decide (s.size < 17)) := by
  by_cases h0 : 0 < s.size
  · have hok : ∀ j, j < s.size → okB (chr s j) = true := fun j hj => okB_of (by
      have := h j hj
      simp only [Bool.or_eq_true, Bool.and_eq_true] at this
      rcases this with h | h
      · exact .inl h
      · exact .inr h.1)
    have hd : digitB (chr s 0) = false := by
      have := h 0 h0
      simp at this
      exact digit_letter this
    unfold nameB
    rw [decide_eq_true hok, hd, Bool.eq_iff_iff]
    simp
    omega
  · unfold nameB
    rw [decide_eq_false h0]
    simp
set_option maxHeartbeats 1000000 in
theorem rname_any (s : ByteArray) (hs : s.size ≤ 9223372036854775807) (w : World) : Calls Tryd.prog 38 #[.string s] w fun e w' => e = .returned (.bool (nameB s)) ∧ w' = w := by
  go_enter Tryd.func38, Tryd.ntmps38
  go_wp2_with fail
  go_loopw [3] (fun c wr => (∃ i : Nat, i ≤ s.size ∧ c = .int .i64 i ∧ ∀ j, j < i → (letUB (chr s j) || (digitB (chr s j) && decide (0 < j))) = true) ∧ wr = w) (fun c _ => s.size - (intOf c).toNat)
  case atStart => exact ⟨⟨0, Nat.zero_le _, rfl, fun j h => absurd h (by omega)⟩, rfl⟩
  case round =>
    obtain ⟨⟨i, hi, rfl, hall⟩, rfl⟩ := hrel
    have HALL : Hid (∀ j, j < i → (letUB (chr s j) || (digitB (chr s j) && decide (0 < j))) = true) := hall
    clear hall
    by_cases hlt : i < s.size
    · have q1 : (i : Int) < (s.size : Int) := by omega
      have hx := chr_eq s i hlt
      have hr := chr_range s i hlt
      obtain ⟨x, hx0⟩ : ∃ x, chr s i = x := ⟨_, rfl⟩
      have HX : Hid (chr s i = x) := hx0
      rw [hx0] at hx hr
      clear hx0
      go_upto_region 5 with fail
      go_cut [5] (fun c5 wx => c5 = .bool (letUB x) ∧ wx = wr)
      case first =>
        go_wp2_with fail
        all_goals go_meet
        all_goals
          refine ⟨congrArg Value.bool ?_, rfl⟩
          rw [Bool.eq_iff_iff]
          simp [letUB, letterB]
          omega
      case rest =>
        obtain ⟨rfl, rfl⟩ := hcut
        go_upto_region 6 with fail
        go_cut [6] (fun c6 wx => c6 = .bool (digitB x) ∧ wx = wc)
        case first =>
          go_wp2_with fail
          all_goals go_meet
          all_goals
            refine ⟨congrArg Value.bool ?_, rfl⟩
            rw [Bool.eq_iff_iff]
            simp [digitB]
            omega
        case rest =>
          obtain ⟨rfl, hwc⟩ := hcut
          subst hwc
          cases hl : letUB x with
          | true =>
            go_wp2
            go_roundw
            case rel => exact ⟨⟨i + 1, by omega, by go_num, ok_step HALL.out (by rw [HX.out, hl]; rfl)⟩, trivial⟩
            case measure => simp [intOf]; omega
          | false =>
            cases hd : digitB x with
            | true =>
              by_cases hi0 : i = 0
              · subst hi0
                have HF : Hid (nameB s = false) := name_digit (HX.out.symm ▸ hd)
                go_wp2
                go_ret
                exact ⟨by rw [HF.out]; rfl, rfl⟩
              · have hi1 : ¬ (i : Int) = 0 := by omega
                go_wp2
                go_roundw
                case rel => exact ⟨⟨i + 1, by omega, by go_num, ok_step HALL.out (by rw [HX.out, hl, hd, decide_eq_true (by omega)]; rfl)⟩, trivial⟩
                case measure => simp [intOf]; omega
            | false =>
              have HF : Hid (nameB s = false) := name_bad hlt (by rw [HX.out]; exact okB_not hl hd)
              go_wp2
              all_goals
                go_ret
                exact ⟨by rw [HF.out]; rfl, rfl⟩
    · obtain rfl : i = s.size := by omega
      have q1 : ¬ ((s.size : Nat) : Int) < (s.size : Int) := by omega
      have HN : Hid (nameB s = (decide (0 < s.size) && decide (s.size < 17))) := name_all HALL.out
      go_wp2
      all_goals
        go_ret
        refine ⟨?_, rfl⟩
        rw [HN.out]
        refine congrArg (fun b => Ending.returned (Value.bool b)) ?_
        rw [Bool.eq_iff_iff]
        simp
        omega
end Go.Proofs.YtaocbkloafhmeaaDoor
