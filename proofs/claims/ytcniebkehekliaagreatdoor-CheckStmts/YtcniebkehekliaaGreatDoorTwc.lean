/- Whether a name comes twice (twice): slices.Clone, Sort and Compact by their contracts. -/
import Derived.Test.YtcniebkehekliaaGreatDoorShw
import Derived.Test.YtcniebkehekliaaGreatDoorChx
import Derived.Sort.OwnSorted
import Derived.Lib.OwnBridge
namespace Go.Proofs.YtcniebkehekliaaGreatDoor
open Go.RowKit Go.Shelf Go.Sort
attribute [local go_sem] Oper.semAt_some
def twB (ss : List (List UInt8)) : Bool := decide ((Lib.compact (ss.mergeSort fun x y => decide (x ≤ y))).length < ss.length)
def nmLs (m : Nat) (g : Nat → ByteArray) : List (List UInt8) := (List.range m).map fun i => (g i).data.toList
set_option maxRecDepth 100000 in
set_option maxHeartbeats 4000000 in
theorem twice_tail (n : Nat) (p : Option Addr) (c : Nat) (ss : List (List UInt8)) (w : World) (hn : n ≤ 1000) (hl : ss.length = n)
    (hclone : Calls Tryz.prog 44 #[.slice p n c] w fun e w' => ∃ v', e = .returned v' ∧ w'.ownsRow w.heap.size 9 1 v' n (ss.map encStr) ∧ v' ≠ .slice none 0 0 ∧ Below w.heap.size w w') :
    Calls Tryz.prog 19 #[.slice p n c] w fun r w' => r = .returned (.bool (twB ss)) ∧ Below w.heap.size w w' := by
  have HL : Hid (ss.length = n) := hl
  obtain ⟨tb, htb⟩ : ∃ tb, twB ss = tb := ⟨_, rfl⟩
  rw [htb]
  have HT : Hid (twB ss = tb) := htb
  clear hl htb
  go_enter Tryz.func19, Tryz.ntmps19
  go_wp2_with fail
  refine hclone.mono ?_
  rintro e w1 ⟨v1, rfl, hown, hnn, hbel⟩
  obtain ⟨g, cap, rfl, hbg, hgl, hncap, hcm, hlen, hH⟩ := Lib.holds_of_ownsRow hown hnn
  have hsort := Tryz.slices_Sort_string g 0 cap ss w1 hH hgl (by omega)
  rw [hlen] at hsort
  have X : Hid (Below w.heap.size w w1 ∧ w.heap.size ≤ g ∧ g < w1.heap.size ∧ n ≤ cap ∧ Holds encStr w1 g 0 ss.toArray ∧ w1.ownsRow w.heap.size 9 1 (.slice (some ⟨g, 0, none⟩) n cap) n (ss.map encStr)) := ⟨hbel, hbg, hgl, hncap, hH, hown⟩
  clear hown hbel hH hnn hlen hclone hbg hgl hncap hcm
  go_wp2_with fail
  refine hsort.mono ?_
  rintro e w2 ⟨rfl, nn, os, hw2⟩
  have hl2 : (ss.mergeSort fun x y => decide (x ≤ y)).length = n := by rw [List.length_mergeSort]; exact HL.out
  have hH2 : Holds encStr w2 g 0 (ss.mergeSort fun x y => decide (x ≤ y)).toArray := by
    rw [hw2]
    exact holds_grow encStr _ os g 0 _ (by simpa [putRow, mapBlock, Sort.ahead] using X.out.2.2.1) (holds_putRow encStr _ g 0 _ _ (holds_ahead encStr w1 nn g 0 _ X.out.2.2.2.2.1) (by simp))
  have hb2 : Below w.heap.size w w2 := by
    rw [hw2]
    exact X.out.1.grown (grownBy_sorted _) X.out.1.size (fun j hj => by cases hj; exact X.out.2.1)
  have hcomp := Tryz.slices_Compact_string g 0 cap (ss.mergeSort fun x y => decide (x ≤ y)) w2 hH2 (by omega) (by have := X.out.2.2.2.1; omega)
  rw [hl2] at hcomp
  obtain ⟨cl, hcl⟩ : ∃ cl, (Lib.compact (ss.mergeSort fun x y => decide (x ≤ y))).length = cl := ⟨_, rfl⟩
  have hle : cl ≤ n := by rw [← hcl, ← hl2]; exact Lib.compact_length_le _
  have HT2 : Hid (tb = decide (cl < n)) := by
    have : tb = decide (cl < n) := by
      rw [← HT.out, ← hcl, ← HL.out]
      rfl
    exact this
  rw [hcl] at hcomp
  have H2 : Hid (Below w.heap.size w w2 ∧ w.heap.size ≤ g) := ⟨hb2, X.out.2.1⟩
  clear hsort hw2 hl2 hH2 hb2 hcl X HT
  go_wp2_with fail
  refine hcomp.mono ?_
  rintro e w3 ⟨rfl, q, hw3⟩
  have H3 : Hid (Below w.heap.size w w3) := by
    have : Below w.heap.size w w3 := by
      rw [hw3]
      exact Lib.below_putRow H2.out.1 H2.out.2
    exact this
  clear hcomp hw3
  by_cases hlt : cl < n
  · have hlt' : (cl : Int) < (n : Int) := by omega
    have ht : tb = true := by rw [HT2.out]; exact decide_eq_true hlt
    subst ht
    go_wp2
    go_ret
    exact ⟨rfl, H3.out⟩
  · have hlt' : ¬ (cl : Int) < (n : Int) := by omega
    have ht : tb = false := by rw [HT2.out]; exact decide_eq_false hlt
    subst ht
    go_wp2
    go_ret
    exact ⟨rfl, H3.out⟩
set_option maxRecDepth 100000 in
set_option maxHeartbeats 4000000 in
theorem twice_nil (c : Nat) (w : World) : Calls Tryz.prog 19 #[.slice none 0 c] w fun r w' => r = .returned (.bool (twB [])) ∧ Below w.heap.size w w' := by
  have e : twB [] = false := by decide
  rw [e]
  have k1 := Tryz.slices_Clone_string_nil 0 c w
  have k2 := Tryz.slices_Sort_string_none none 0 w
  have k3 := Tryz.slices_Compact_string_empty none 0 w
  go_enter Tryz.func19, Tryz.ntmps19
  go_wp2_with fail
  refine k1.mono ?_
  rintro e w1 ⟨rfl, hw1⟩
  subst hw1
  go_wp2_with fail
  refine k2.mono ?_
  rintro e w1 ⟨rfl, hw1⟩
  subst hw1
  go_wp2_with fail
  refine k3.mono ?_
  rintro e w1 ⟨rfl, hw1⟩
  subst hw1
  go_wp2
  go_ret
  exact ⟨rfl, Below.refl _ _⟩
theorem twice_any {w : World} {S : Nat → Prop} {p : Option Addr} {m c : Nat} {g : Nat → ByteArray} (h : Nms w S p m c g) (hm : m ≤ 1000) : Calls Tryz.prog 19 #[.slice p m c] w fun r w' => r = .returned (.bool (twB (nmLs m g))) ∧ Below w.heap.size w w' := by
  have hlen : (nmLs m g).length = m := by simp [nmLs]
  by_cases h0 : 0 < m
  · obtain ⟨b, o, rfl, -, -, hc⟩ := h.lies h0
    have zl : ((List.range m).map g).length = m := by simp
    refine twice_tail m _ c (nmLs m g) w hm hlen ((Tryz.slices_Clone_string b o m c ((List.range m).map g) w (by omega) (by omega) (fun j hj => ?_)).mono fun e w' ⟨v', he, hown, hnn, hbel⟩ => ⟨v', he, ?_, hnn, hbel⟩)
    · rw [zl] at hj
      rw [hc j hj]
      simp [hj]
    · have e1 : (nmLs m g).map encStr = (((List.range m).map g).take m).map Value.string := by
        rw [List.take_of_length_le (by omega)]
        unfold nmLs
        rw [List.map_map, List.map_map]
        refine List.map_congr_left fun i _ => ?_
        simp [encStr]
      rw [e1]
      exact hown
  · obtain rfl : m = 0 := by omega
    have e : nmLs 0 g = [] := rfl
    rw [e]
    cases p with
    | none => exact twice_nil c w
    | some a => exact twice_tail 0 _ c [] w (by omega) rfl (Tryz.slices_Clone_string_zero a c w)
end Go.Proofs.YtcniebkehekliaaGreatDoor
