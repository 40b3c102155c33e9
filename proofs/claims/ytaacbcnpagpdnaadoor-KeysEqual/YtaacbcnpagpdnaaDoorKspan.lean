/- What is in a span (Has), in none (Empty), in all (All), the lower end (lower): of any spans and keys. -/
import Derived.Test.YtaacbcnpagpdnaaDoorKlex
import Derived.Test.YtaacbcnpagpdnaaDoorParts
import Derived.RegionTactic
import Derived.StillTailTactics
namespace Go.Proofs.YtaacbcnpagpdnaaDoor
open Go.RowKit
def hasB (lo hi key : ByteArray) : Bool := !Op.bytesLess key.toList lo.toList && (hi.toList.isEmpty || Op.bytesLess key.toList hi.toList)
theorem hasB_no {lo hi key : ByteArray} (h : Op.bytesLess key.toList lo.toList = true) : hasB lo hi key = false := by unfold hasB; rw [h]; rfl
theorem hasB_open {lo hi key : ByteArray} (h : Op.bytesLess key.toList lo.toList = false) (h2 : hi.toList.isEmpty = true) : hasB lo hi key = true := by unfold hasB; rw [h, h2]; rfl
theorem hasB_end {lo hi key : ByteArray} (h : Op.bytesLess key.toList lo.toList = false) (h2 : hi.toList.isEmpty = false) : hasB lo hi key = Op.bytesLess key.toList hi.toList := by unfold hasB; rw [h, h2]; rfl
set_option maxRecDepth 20000 in
set_option maxHeartbeats 2000000 in
theorem has_any (lo hi key : ByteArray) (w : World) : Calls Tryd.prog 22 #[.agg #[.string lo, .string hi], .string key] w fun e w' => e = .returned (.bool (hasB lo hi key)) ∧ Below w.heap.size w w' := by
  obtain ⟨X, hX⟩ : ∃ X, hasB lo hi key = X := ⟨_, rfl⟩
  rw [hX]
  have HX : Hid (hasB lo hi key = X) := hX
  clear hX
  have hb : Below w.heap.size w (w.alloc (.cells #[.string lo, .string hi] 45)) := (Below.refl _ w).alloc (Nat.le_refl _) _
  go_enter Tryd.func22, Tryd.ntmps22
  go_wp2
  · rename_i h1 h2
    go_ret
    rw [← HX.out, hasB_open h1 h2]
    exact ⟨rfl, hb⟩
  · rename_i h1 h2
    go_ret
    rw [← HX.out, hasB_end h1 h2]
    exact ⟨rfl, hb⟩
  · rename_i h1
    go_ret
    rw [← HX.out, hasB_no h1]
    exact ⟨rfl, hb⟩
set_option maxRecDepth 20000 in
set_option maxHeartbeats 2000000 in
theorem in_any (lo hi key : ByteArray) (z : Nat) (w : World) (hz : w.cell? ⟨z, 0, none⟩ = some (.string key)) : Calls Tryd.prog 20 #[.agg #[.string lo, .string hi], .pointer (some ⟨z, 0, none⟩)] w fun e w' => e = .returned (.bool (hasB lo hi key)) ∧ Below w.heap.size w w' := by
  obtain ⟨X, hX⟩ : ∃ X, hasB lo hi key = X := ⟨_, rfl⟩
  rw [hX]
  have HX : Hid (hasB lo hi key = X) := hX
  clear hX
  have hb : Below w.heap.size w (w.alloc (.cells #[.string lo, .string hi] 45)) := (Below.refl _ w).alloc (Nat.le_refl _) _
  have hz1 := cell_later hz (block_lt hz) hb
  go_enter Tryd.func20, Tryd.ntmps20
  go_wp2
  · rename_i h1 h2
    go_ret
    rw [← HX.out, hasB_open h1 h2]
    exact ⟨rfl, hb⟩
  · rename_i h1 h2
    go_ret
    rw [← HX.out, hasB_end h1 h2]
    exact ⟨rfl, hb⟩
  · rename_i h1
    go_ret
    rw [← HX.out, hasB_no h1]
    exact ⟨rfl, hb⟩
def emptyB (lo hi : ByteArray) : Bool := !hasB lo hi lo
set_option maxRecDepth 20000 in
set_option maxHeartbeats 2000000 in
theorem empty_any (lo hi : ByteArray) (w : World) : Calls Tryd.prog 23 #[.agg #[.string lo, .string hi]] w fun e w' => e = .returned (.bool (emptyB lo hi)) ∧ Below w.heap.size w w' := by
  have hb : Below w.heap.size w (w.alloc (.cells #[.string lo, .string hi] 45)) := (Below.refl _ w).alloc (Nat.le_refl _) _
  have hh := fun W => has_any lo hi lo W
  unfold emptyB
  obtain ⟨X, hX⟩ : ∃ X, hasB lo hi lo = X := ⟨_, rfl⟩
  rw [hX] at hh ⊢
  clear hX
  go_enter Tryd.func23, Tryd.ntmps23
  go_wp2_with fail
  refine (hh _).mono ?_
  rintro e w1 ⟨rfl, hb1⟩
  go_wp2
  go_ret
  exact ⟨rfl, hb.trans (hb1.mono (by simp))⟩
set_option maxHeartbeats 1000000 in
theorem all_any (w : World) : Calls Tryd.prog 24 #[] w fun e w' => e = .returned (.agg #[.string ⟨#[]⟩, .string ⟨#[]⟩]) ∧ Below w.heap.size w w' := by
  go_enter Tryd.func24, Tryd.ntmps24
  go_wp2
  exact bodyPost_ret (v := .agg #[.string ⟨#[]⟩, .string ⟨#[]⟩]) (by simp [results, Tryd.results24, go_sem]) rfl ⟨rfl, (Below.refl _ _).alloc (Nat.le_refl _) _⟩
theorem min_str (ts : Array TypeId) (t : TypeId) (a b : ByteArray) (w : World) : (Builtin.min_ ts t #[.string a, .string b]).run Tryd.prog w = .ok (.string (if (Op.bytesLess a.toList b.toList || a.toList == b.toList) = true then a else b)) w := by
  simp [Builtin.min_, Builtin.min2, Op.stringOp, asBool]
theorem max_str (ts : Array TypeId) (t : TypeId) (a b : ByteArray) (w : World) : (Builtin.max_ ts t #[.string a, .string b]).run Tryd.prog w = .ok (.string (if (!Op.bytesLess a.toList b.toList) = true then a else b)) w := by
  simp [Builtin.max_, Builtin.max2, Op.stringOp, asBool]
def lowerB (a b : ByteArray) : ByteArray := if (a.toList.isEmpty || b.toList.isEmpty) = true then a ++ b else if (Op.bytesLess a.toList b.toList || a.toList == b.toList) = true then a else b
theorem size_of_empty {a : ByteArray} (h : a.toList.isEmpty = true) : a.size = 0 := by
  rw [Lib.size_eq, ← Lib.toList_data]
  simpa using h
set_option maxRecDepth 20000 in
set_option maxHeartbeats 2000000 in
theorem lower_any (a b : ByteArray) (w : World) (ha : a.size ≤ maxLen) (hb : b.size ≤ maxLen) : Calls Tryd.prog 31 #[.string a, .string b] w fun e w' => e = .returned (.string (lowerB a b)) ∧ w' = w := by
  obtain ⟨X, hX⟩ : ∃ X, lowerB a b = X := ⟨_, rfl⟩
  rw [hX]
  have HX : Hid (lowerB a b = X) := hX
  clear hX
  unfold maxLen at ha hb
  have hmin := fun W => min_str #[9, 9] 9 a b W
  obtain ⟨M, hM⟩ : ∃ M, (if (Op.bytesLess a.toList b.toList || a.toList == b.toList) = true then a else b) = M := ⟨_, rfl⟩
  rw [hM] at hmin
  have HM : Hid ((if (Op.bytesLess a.toList b.toList || a.toList == b.toList) = true then a else b) = M) := hM
  clear hM
  cases hea : a.toList.isEmpty with
  | true =>
    have hz := size_of_empty hea
    have hsum : ¬ 9223372036854775807 < a.size + b.size := by omega
    have hx : lowerB a b = a ++ b := by unfold lowerB; rw [hea]; rfl
    have HY : Hid (X = a ++ b) := HX.out.symm.trans hx
    clear hx hz HM
    go_enter Tryd.func31, Tryd.ntmps31
    go_wp2
    go_ret
    rw [HY.out]
    exact ⟨rfl, rfl⟩
  | false =>
    cases heb : b.toList.isEmpty with
    | true =>
      have hz := size_of_empty heb
      have hsum : ¬ 9223372036854775807 < a.size + b.size := by omega
      have hx : lowerB a b = a ++ b := by unfold lowerB; rw [hea, heb]; rfl
      have HY : Hid (X = a ++ b) := HX.out.symm.trans hx
      clear hx hz HM
      go_enter Tryd.func31, Tryd.ntmps31
      go_wp2
      go_ret
      rw [HY.out]
      exact ⟨rfl, rfl⟩
    | false =>
      have hx : lowerB a b = M := by unfold lowerB; rw [hea, heb, ← HM.out]; rfl
      have HY : Hid (X = M) := HX.out.symm.trans hx
      clear hx HM
      go_enter Tryd.func31, Tryd.ntmps31
      go_wp2
      go_ret
      rw [HY.out]
      exact ⟨rfl, rfl⟩
def maxS (a b : ByteArray) : ByteArray := if (!Op.bytesLess a.toList b.toList) = true then a else b
set_option maxRecDepth 20000 in
set_option maxHeartbeats 4000000 in
theorem meet_any (a0 a1 b0 b1 : ByteArray) (w : World) (ha : a1.size ≤ maxLen) (hb : b1.size ≤ maxLen) : Calls Tryd.prog 21 #[.agg #[.string a0, .string a1], .agg #[.string b0, .string b1]] w fun e w' => e = .returned (.agg #[.string (maxS a0 b0), .string (lowerB a1 b1)]) ∧ Below w.heap.size w w' := by
  have hmax := fun W => max_str #[9, 9] 9 a0 b0 W
  have hlo := fun W => lower_any a1 b1 W ha hb
  unfold maxS
  obtain ⟨M, hM⟩ : ∃ M, (if (!Op.bytesLess a0.toList b0.toList) = true then a0 else b0) = M := ⟨_, rfl⟩
  obtain ⟨L, hL⟩ : ∃ L, lowerB a1 b1 = L := ⟨_, rfl⟩
  rw [hM] at hmax ⊢
  rw [hL] at hlo ⊢
  clear hM hL
  go_enter Tryd.func21, Tryd.ntmps21
  go_wp2_with fail
  have hr0 := fresh_row w #[.string a0, .string a1] 45
  have hr1 := fresh_row (w.alloc (.cells #[.string a0, .string a1] 45)) #[.string b0, .string b1] 45
  have hr2 := fresh_row ((w.alloc (.cells #[.string a0, .string a1] 45)).alloc (.cells #[.string b0, .string b1] 45)) #[.string ⟨#[]⟩, .string ⟨#[]⟩] 45
  have hb : Below w.heap.size w (((w.alloc (.cells #[.string a0, .string a1] 45)).alloc (.cells #[.string b0, .string b1] 45)).alloc (.cells #[.string ⟨#[]⟩, .string ⟨#[]⟩] 45)) := (((Below.refl _ w).alloc (Nat.le_refl _) _).alloc (by simp) _).alloc (by simp; omega) _
  replace hr0 := ((Below.heap_alloc (w.alloc (.cells #[.string a0, .string a1] 45)) (.cells #[.string b0, .string b1] 45) w.heap.size (by simp)).trans hr0)
  replace hr0 := ((Below.heap_alloc ((w.alloc (.cells #[.string a0, .string a1] 45)).alloc (.cells #[.string b0, .string b1] 45)) (.cells #[.string ⟨#[]⟩, .string ⟨#[]⟩] 45) w.heap.size (by simp; omega)).trans hr0)
  replace hr1 := ((Below.heap_alloc ((w.alloc (.cells #[.string a0, .string a1] 45)).alloc (.cells #[.string b0, .string b1] 45)) (.cells #[.string ⟨#[]⟩, .string ⟨#[]⟩] 45) _ (by simp)).trans hr1)
  obtain ⟨W, hW⟩ : ∃ W, (((w.alloc (.cells #[.string a0, .string a1] 45)).alloc (.cells #[.string b0, .string b1] 45)).alloc (.cells #[.string ⟨#[]⟩, .string ⟨#[]⟩] 45)) = W := ⟨_, rfl⟩
  rw [hW] at hr0 hr1 hr2 hb ⊢
  have hs1 : (w.alloc (.cells #[.string a0, .string a1] 45)).heap.size = w.heap.size + 1 := by simp
  have hs2 : ((w.alloc (.cells #[.string a0, .string a1] 45)).alloc (.cells #[.string b0, .string b1] 45)).heap.size = w.heap.size + 1 + 1 := by simp
  rw [hs1] at hr1
  rw [hs2] at hr2
  clear hW hs1 hs2
  have c0 := cell_of_row W _ 0 _ _ _ hr0
  have c1 := cell_of_row W _ 1 _ _ _ hr0
  have d0 := cell_of_row W _ 0 _ _ _ hr1
  have d1 := cell_of_row W _ 1 _ _ _ hr1
  have e0 := cell_of_row W _ 0 _ _ _ hr2
  have e1 := cell_of_row W _ 1 _ _ _ hr2
  have f0 := frozen_of_row W _ 0 _ _ hr2
  have f1 := frozen_of_row W _ 1 _ _ hr2
  refine wp_region_still_tail 11 (by kernel_rfl) (by kernel_rfl) ?_
  simp only [List.take_succ_cons, List.take_zero, List.drop_succ_cons, List.drop_zero]
  still_step
  still_step
  still_step
  still_step
  still_step
  still_step
  still_step
  still_step
  still_step
  still_call (hlo _)
  still_step
  refine wpStill_nil ?_
  go_wp2
  have hrow : ((W.setCell ⟨w.heap.size + 1 + 1, 0, none⟩ (.string M)).setCell ⟨w.heap.size + 1 + 1, 1, none⟩ (.string L)).drew.heap[w.heap.size + 1 + 1]? = some (.cells #[.string M, .string L] 45 (0, 0)) := row_setCell (k := 1) (row_setCell (k := 0) hr2 (.string M)) (.string L)
  have hbf : Below w.heap.size w ((W.setCell ⟨w.heap.size + 1 + 1, 0, none⟩ (.string M)).setCell ⟨w.heap.size + 1 + 1, 1, none⟩ (.string L)).drew := ((hb.setCell (p := ⟨w.heap.size + 1 + 1, 0, none⟩) (by show w.heap.size ≤ w.heap.size + 1 + 1; omega) _).setCell (p := ⟨w.heap.size + 1 + 1, 1, none⟩) (by show w.heap.size ≤ w.heap.size + 1 + 1; omega) _).drew
  obtain ⟨wf, hwf⟩ : ∃ wf, ((W.setCell ⟨w.heap.size + 1 + 1, 0, none⟩ (.string M)).setCell ⟨w.heap.size + 1 + 1, 1, none⟩ (.string L)).drew = wf := ⟨_, rfl⟩
  rw [hwf] at hrow hbf ⊢
  clear hwf
  have o0 := cell_of_row wf _ 0 _ _ _ hrow
  have o1 := cell_of_row wf _ 1 _ _ _ hrow
  exact bodyPost_ret (v := .agg #[.string M, .string L]) (by simp [results, Tryd.results21, go_sem, o0, o1]) rfl ⟨rfl, hbf⟩
end Go.Proofs.YtaacbcnpagpdnaaDoor
