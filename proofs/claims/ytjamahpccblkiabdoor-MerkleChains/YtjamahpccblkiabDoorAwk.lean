/- awake, called: a leaf of two is shown. -/
import Derived.Test.YtjamahpccblkiabDoorPub
namespace Go.Proofs.YtjamahpccblkiabDoor
open Go.RowKit
def fa2 (x y : ByteArray) : Nat → ByteArray := addF (addF (fun _ => ByteArray.empty) 0 x) 1 y
theorem fa2_0 (x y : ByteArray) : fa2 x y 0 = x := rfl
theorem fa2_1 (x y : ByteArray) : fa2 x y 1 = y := rfl
theorem half_two : half 2 = 1 := by decide
theorem path_two (x y : ByteArray) : pathR (fa2 x y) 1 0 2 = [x] := by
  rw [pathR_right _ _ _ (by omega) (by rw [half_two]; omega), half_two, pathR_one, rootR_one]
  rfl
theorem root_two (x y : ByteArray) : rootR (fa2 x y) 0 2 = nodeS x y := by
  rw [rootR_two _ _ (by omega), half_two, rootR_one, rootR_one]
  rfl
theorem ver_two (x y : ByteArray) (hx : x.size = 32) (g : Nat → ByteArray) (hg : g 0 = x) : verA y (nodeS x y) 1 2 g 1 = 0 := by
  unfold verA
  rw [if_neg (by omega)]
  have e : rb y (1 : Int).toNat (2 : Int).toNat (revL g 1) = (nodeS x y, true) := by
    show rb y 1 2 [g 0] = _
    rw [hg]
    show (if 2 = 1 then (y, false) else if x.size = 32 then (if 1 < half 2 then _ else (nodeS x (rb y (1 - half 2) (2 - half 2) []).1, (rb y (1 - half 2) (2 - half 2) []).2)) else _) = _
    rw [if_neg (by omega), if_pos hx, half_two, if_neg (by omega)]
    rfl
  rw [e]
  exact if_pos rfl
set_option maxHeartbeats 2000000 in
theorem awake_any (w : World) (hG : GL w) (hD : GD w) :
    Calls Tryd.prog 5 #[] w fun e w' => e = .returned (.bool true) ∧ Below w.heap.size w w' := by
  have hw : 3 ≤ w.heap.size := hD.lt
  have hT0 := new_tre w hw (fun _ => ByteArray.empty)
  have hb0 : Below w.heap.size w (w.alloc (.cells #[.slice none 0 0] 48)) := (Below.refl _ _).alloc (Nat.le_refl _) _
  have hA := fun w hG S b hT => add_any ⟨#[97]⟩ (by decide) 0 (by omega) (fun _ => ByteArray.empty) S b w hG hT
  have hB := fun f w hG S b hT => add_any ⟨#[98]⟩ (by decide) 1 (by omega) f S b w hG hT
  have hx := sumS_size (leafT ⟨#[97]⟩)
  have hy := sumS_size (leafT ⟨#[98]⟩)
  generalize sumS (leafT ⟨#[97]⟩) = x at hA hx
  generalize sumS (leafT ⟨#[98]⟩) = y at hB hy
  go_enter Tryd.func5, Tryd.ntmps5
  go_wp2_with fail
  refine (new_any _).mono ?_
  rintro e w1 ⟨rfl, rfl⟩
  have hG1 := hG.later hb0
  have hD1 := hD.later hb0
  obtain ⟨w1, hw1⟩ : ∃ w1, w.alloc (.cells #[.slice none 0 0] 48) = w1 := ⟨_, rfl⟩
  rw [hw1] at hT0 hb0 hG1 hD1 ⊢
  clear hw1
  obtain ⟨b, hb⟩ : ∃ b, w.heap.size = b := ⟨_, rfl⟩
  have HB : Hid (w.heap.size = b) := hb
  rw [hb] at hT0 ⊢
  clear hb
  go_wp2_with fail
  refine (hA w1 hG1 _ b hT0).mono ?_
  rintro e w2 ⟨rfl, ⟨S2, hT2, hS2⟩, hC2⟩
  have hG2 := hG1.chg hC2 hT0.low
  have hD2 := hD1.chg hC2 hT0.low
  have q2 : ∀ j, S2 j → w.heap.size ≤ j := fun j hj => by
    have := HB.out
    have := hb0.size
    rcases hS2 j hj with h | h <;> omega
  have hb2 : Below w.heap.size w w2 := hb0.trans (hC2.below hb0.size (fun j hj => by have := HB.out; omega))
  go_wp2_with fail
  refine (hB _ w2 hG2 S2 b hT2).mono ?_
  rintro e w3 ⟨rfl, ⟨S3, hT3, hS3⟩, hC3⟩
  have hG3 := hG2.chg hC3 hT2.low
  have hD3 := hD2.chg hC3 hT2.low
  have hb3 : Below w.heap.size w w3 := hb2.trans (hC3.below hb2.size q2)
  clear hA hB hT0 hT2 hC2 hC3 hS2 hS3 hG hD hG1 hD1 hG2 hD2 hb0 hb2 q2
  have hT : Tre w3 S3 b 2 (fa2 x y) := hT3
  have hP := Path_any (fa2 x y) S3 b 2 (by omega) 1 2 (by omega) (by omega) (by omega) w3 hG3 hD3 hT
  rw [show (1 : Int).toNat = 1 from rfl, show (2 : Int).toNat = 2 from rfl, path_two] at hP
  go_wp2_with fail
  refine hP.mono ?_
  rintro e w4 ⟨v, rfl, hown, hb4⟩
  obtain ⟨p, cap, rfl, hS⟩ := own_strs hown
  obtain ⟨B, o, rfl, hB1, hB2⟩ := hS.at' Nat.zero_lt_one
  have c0 : w4.cell? ⟨B, o, none⟩ = some (.string x) := hB2 0 Nat.zero_lt_one
  have hR := fun w hG hD hT => Root_any (fa2 x y) S3 b 2 (by omega) w hG hD hT
  simp only [root_two] at hR
  have hs4 := hb4.size
  have hs3 := hb3.size
  have hc := hS.cap
  have hm : maxLen = 9223372036854775807 := rfl
  clear hP hT3 hown
  simp only [List.length_singleton] at hc hS ⊢
  go_wp2_with fail
  refine (hR _ (hG3.later hb4) (hD3.later hb4) (hT.later hb4)).mono ?_
  rintro e w5 ⟨rfl, hb5⟩
  have hv := ver_any (nodeS x y) y 1 2 (fun h => by
    unfold badV at h
    rw [nodeS, sumS_size] at h
    omega) (some ⟨B, o, none⟩) 1 cap _ w5 (hS.later hb5) ((hG3.later hb4).later hb5)
  rw [ver_two x y hx _ rfl] at hv
  go_wp2_with fail
  refine hv.mono ?_
  rintro e w6 ⟨rfl, hb6⟩
  go_wp2
  go_ret
  exact ⟨rfl, hb3.trans (((hb4.trans (hb5.mono hs4)).trans (hb6.mono (Nat.le_trans hs4 hb5.size))).mono hs3)⟩
end Go.Proofs.YtjamahpccblkiabDoor
