/- Bytes that are blank, digits, in names; as many of a kind as stand ahead (run); whether a text is a name of value's. -/
import Derived.Test.YtcniebkehekliaaGreatDoorPl
import Derived.Test.YtcniebkehekliaaGreatDoorRows
import Derived.WalkKit
import Derived.WalkSpells
import Derived.WalkLawsBesides
import Derived.Deep.QuietTactic
import Derived.BigQuiet
import Derived.BigGuardPart
import Derived.Lib.Strings
import Derived.Shelf.Abstract
namespace Go.Proofs.YtcniebkehekliaaGreatDoor
open Go.RowKit Go.Shelf
set_option maxHeartbeats 400000 in
theorem blank_any (x : Int) (w : World) : Calls Tryz.prog 55 #[.int .u8 x] w fun e w' => e = .returned (.bool (blankB x)) ∧ w' = w := by
  obtain ⟨F, hF⟩ : ∃ F, blankB x = F := ⟨_, rfl⟩
  rw [hF]
  have HF : Hid (blankB x = F) := hF
  clear hF
  go_enter Tryz.func55, Tryz.ntmps55
  go_wp2
  all_goals
    go_ret
    refine ⟨?_, rfl⟩
    have := HF.out
    unfold blankB at this
    subst this
    simp_all
  all_goals (first | (intros; omega) | (constructor <;> intros <;> omega) | (rw [Bool.eq_iff_iff]; simp; try (intros; omega)))
set_option maxHeartbeats 400000 in
theorem digit_any (x : Int) (w : World) : Calls Tryz.prog 72 #[.int .u8 x] w fun e w' => e = .returned (.bool (digitB x)) ∧ w' = w := by
  obtain ⟨F, hF⟩ : ∃ F, digitB x = F := ⟨_, rfl⟩
  rw [hF]
  have HF : Hid (digitB x = F) := hF
  clear hF
  go_enter Tryz.func72, Tryz.ntmps72
  go_wp2
  all_goals
    go_ret
    refine ⟨?_, rfl⟩
    have := HF.out
    unfold digitB at this
    subst this
    simp_all
  all_goals (first | (intros; omega) | (constructor <;> intros <;> omega) | (rw [Bool.eq_iff_iff]; simp; try (intros; omega)))
set_option maxHeartbeats 400000 in
theorem vdigit_any (x : Int) (w : World) : Calls Tryz.prog 126 #[.int .u8 x] w fun e w' => e = .returned (.bool (digitB x)) ∧ w' = w := by
  obtain ⟨F, hF⟩ : ∃ F, digitB x = F := ⟨_, rfl⟩
  rw [hF]
  have HF : Hid (digitB x = F) := hF
  clear hF
  go_enter Tryz.func126, Tryz.ntmps126
  go_wp2
  all_goals
    go_ret
    refine ⟨?_, rfl⟩
    have := HF.out
    unfold digitB at this
    subst this
    simp_all
  all_goals (first | (intros; omega) | (constructor <;> intros <;> omega) | (rw [Bool.eq_iff_iff]; simp; try (intros; omega)))
set_option maxHeartbeats 400000 in
theorem vletter_any (x : Int) (w : World) : Calls Tryz.prog 127 #[.int .u8 x] w fun e w' => e = .returned (.bool (letB x)) ∧ w' = w := by
  obtain ⟨F, hF⟩ : ∃ F, letB x = F := ⟨_, rfl⟩
  rw [hF]
  have HF : Hid (letB x = F) := hF
  clear hF
  go_enter Tryz.func127, Tryz.ntmps127
  go_wp2
  all_goals
    go_ret
    refine ⟨?_, rfl⟩
    have := HF.out
    unfold letB at this
    subst this
    simp_all
  all_goals (first | (intros; omega) | (constructor <;> intros <;> omega) | (rw [Bool.eq_iff_iff]; simp; try (intros; omega)))
set_option maxHeartbeats 1000000 in
theorem inName_any (x : Int) (w : World) : Calls Tryz.prog 71 #[.int .u8 x] w fun e w' => e = .returned (.bool (inNameB x)) ∧ w' = w := by
  obtain ⟨F, hF⟩ : ∃ F, inNameB x = F := ⟨_, rfl⟩
  rw [hF]
  have HF : Hid (inNameB x = F) := hF
  clear hF
  obtain ⟨D, hD⟩ : ∃ D, digitB x = D := ⟨_, rfl⟩
  have HD : Hid (digitB x = D) := hD
  have hc := digit_any x w
  rw [hD] at hc
  clear hD
  go_enter Tryz.func71, Tryz.ntmps71
  cases D <;> go_wp2_with (go_at_call 72; refine hc.mono ?_; rintro e w ⟨rfl, rfl⟩)
  all_goals
    go_ret
    refine ⟨?_, rfl⟩
    have h1 := HF.out
    have h2 := HD.out
    unfold inNameB at h1
    rw [h2] at h1
    unfold letB at h1
    subst h1
    simp_all
  all_goals (first | (intros; omega) | (constructor <;> intros <;> omega) | (rw [Bool.eq_iff_iff]; simp; try (intros; omega)))
def chr (s : ByteArray) (i : Nat) : Int := ((s.data.toList.getD i 0).toNat : Int)
theorem chr_eq (s : ByteArray) (i : Nat) (h : i < s.size) : ((s[i].toNat : Nat) : Int) = chr s i := by
  unfold chr
  have hl : i < s.data.toList.length := by rw [← Lib.size_eq]; exact h
  rw [List.getD_eq_getElem?_getD, List.getElem?_eq_getElem hl]
  rfl
theorem chr_at {s : ByteArray} {i : Nat} {c : UInt8} (h : s.data.toList[i]? = some c) : chr s i = (c.toNat : Int) := by
  unfold chr
  rw [List.getD_eq_getElem?_getD, h]
  rfl
theorem at_chr {s : ByteArray} {i : Nat} (h : i < s.size) : ∃ c, s.data.toList[i]? = some c ∧ chr s i = (c.toNat : Int) := by
  have hl : i < s.data.toList.length := by rw [← Lib.size_eq]; exact h
  exact ⟨_, List.getElem?_eq_getElem hl, chr_at (List.getElem?_eq_getElem hl)⟩
theorem runL_chr (p : Int → Bool) (s : ByteArray) (n : Nat) (hn : n ≤ s.size) (h1 : ∀ j, j < n → p (chr s j) = true) (h2 : n < s.size → p (chr s n) = false) : runL p s.data.toList = n := by
  have hl := Lib.size_eq s
  refine runL_eq p _ n (by omega) (fun c hc => ?_) (fun c hc => ?_)
  · obtain ⟨j, hj, rfl⟩ := List.mem_take_iff_getElem.1 hc
    have := h1 j (by omega)
    rwa [chr_at (List.getElem?_eq_getElem (by omega))] at this
  · have hlt : n < s.data.toList.length := by
      rcases Nat.lt_or_ge n s.data.toList.length with h | h
      · exact h
      · rw [List.getElem?_eq_none h] at hc; cases hc
    have := h2 (by omega)
    rwa [chr_at hc] at this
set_option maxHeartbeats 1000000 in
theorem run_any (f : Nat) (p : Int → Bool) (he : ∀ args w, (callFunc f args).run Tryz.prog w = .ok (.enter f args) w) (hf : ∀ x w, Calls Tryz.prog f #[.int .u8 x] w fun e w' => e = .returned (.bool (p x)) ∧ w' = w) (s : ByteArray) (hs : s.size ≤ 4611686018427387904) (w : World) :
    Calls Tryz.prog 54 #[.string s, .func (.func f) #[] #[]] w fun e w' => e = .returned (.int .i64 (runL p s.data.toList : Int)) ∧ w' = w := by
  obtain ⟨F, hF⟩ : ∃ F, runL p s.data.toList = F := ⟨_, rfl⟩
  rw [hF]
  have HF : Hid (runL p s.data.toList = F) := hF
  clear hF
  go_enter Tryz.func54, Tryz.ntmps54
  go_wp2_with fail
  go_loopw [5] (fun c5 wr => ∃ i : Nat, i ≤ s.size ∧ c5 = .int .i64 (i : Int) ∧ (∀ j, j < i → p (chr s j) = true) ∧ wr = w) (fun c5 _ => s.size - (intOf c5).toNat)
  case atStart => exact ⟨0, by omega, rfl, fun j hj => by omega, rfl⟩
  case round =>
    obtain ⟨i, hi, rfl, hj, rfl⟩ := hrel
    have HJ : Hid (∀ j, j < i → p (chr s j) = true) := hj
    clear hj
    by_cases hlt : i < s.size
    · have hlt' : (i : Int) < (s.size : Int) := by omega
      go_wp2_with (go_at_fn f; refine (hf _ _).mono ?_; rintro e w ⟨rfl, rfl⟩; rw [chr_eq s i hlt])
      · have HP : Hid (p (chr s i) = true) := by assumption
        go_roundw
        case rel =>
          refine ⟨i + 1, by omega, by go_num, fun j hj => ?_, by trivial⟩
          rcases Nat.lt_or_ge j i with k | k
          · exact HJ.out j k
          · obtain rfl : j = i := by omega
            exact HP.out
        case measure => simp [intOf]; omega
      · have HP : Hid (p (chr s i) = false) := by assumption
        go_ret
        rw [← HF.out, runL_chr p s i hi HJ.out (fun _ => HP.out)]
        exact ⟨rfl, rfl⟩
    · have hlt' : ¬ (i : Int) < (s.size : Int) := by omega
      go_wp2_with fail
      go_ret
      rw [← HF.out, runL_chr p s i hi HJ.out (fun h => absurd h hlt)]
      exact ⟨rfl, rfl⟩
theorem en15 : ∀ args w, (callFunc 55 args).run Tryz.prog w = .ok (.enter 55 args) w := enters_of Tryz.func55 (by kernel_rfl) rfl
theorem en21 : ∀ args w, (callFunc 71 args).run Tryz.prog w = .ok (.enter 71 args) w := enters_of Tryz.func71 (by kernel_rfl) rfl
theorem en22 : ∀ args w, (callFunc 72 args).run Tryz.prog w = .ok (.enter 72 args) w := enters_of Tryz.func72 (by kernel_rfl) rfl
end Go.Proofs.YtcniebkehekliaaGreatDoor
