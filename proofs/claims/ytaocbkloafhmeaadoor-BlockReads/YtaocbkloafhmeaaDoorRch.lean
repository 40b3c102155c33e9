/- The document's Check, called: of any revision. -/
import Derived.Test.YtaocbkloafhmeaaDoorChk
import Derived.Test.YtaocbkloafhmeaaDoorRname
namespace Go.Proofs.YtaocbkloafhmeaaDoor
open Go.RowKit
set_option maxRecDepth 100000 in
set_option maxHeartbeats 4000000 in
theorem rch_1 (t f : ByteArray) (d v : Nat) (h b : ByteArray) (g : Bool) (hr : (Rv.mk 1 t f d v h b g).fit) (w : World) : Calls Tryd.prog 12 #[(Rv.mk 1 t f d v h b g).val] w fun e w' => e = .returned (.int .i64 (checkR ⟨1, t, f, d, v, h, b, g⟩)) ∧ Below w.heap.size w w' := by
  have hnt := fun W => rname_any t (Nat.le_trans hr.t (by omega)) W
  have hnf := fun W => rname_any f (Nat.le_trans hr.f (by omega)) W
  have hbs := hr.b
  have hd := hr.d
  have hv := hr.v
  simp only at hbs hd hv
  have hC : checkR ⟨1, t, f, d, v, h, b, g⟩ = if nameB t && (f.toList.isEmpty && decide (d = 0) && decide (v = 0)) && (h.toList.isEmpty && b.toList.isEmpty && !g) then 0 else 6 := by
    rw [empty_size, empty_size, empty_size]
    rfl
  rw [hC, show (Rv.mk 1 t f d v h b g).val = .agg #[.int .i64 1, .string t, .string f, .int .u64 (d : Int), .int .u64 (v : Int), .string h, .string b, .bool g] from rfl]
  clear hC hr
  obtain ⟨T, hT⟩ : ∃ T, nameB t = T := ⟨_, rfl⟩
  rw [hT] at hnt ⊢
  obtain ⟨N, hN⟩ : ∃ N, nameB f = N := ⟨_, rfl⟩
  rw [hN] at hnf
  try rw [hN]
  obtain ⟨E, hE⟩ : ∃ E, f.toList.isEmpty = E := ⟨_, rfl⟩
  obtain ⟨X, hX⟩ : ∃ X, h.toList.isEmpty = X := ⟨_, rfl⟩
  obtain ⟨Y, hY⟩ : ∃ Y, b.toList.isEmpty = Y := ⟨_, rfl⟩
  try rw [hE]
  try rw [hX]
  try rw [hY]
  clear hT hN
  have hbw : ∀ o, Below w.heap.size w (w.alloc o) := fun o => (Below.refl _ w).alloc (Nat.le_refl _) o
  go_enter Tryd.func12, Tryd.ntmps12
  go_wp2_with fail
  refine (hnt _).mono ?_
  rintro e w1 ⟨rfl, rfl⟩
  go_wp2_with fail
  all_goals
    go_ret
    refine ⟨?_, hbw _⟩
    first
      | (simp_all; done)
      | (simp_all; omega)
      | (have hv9 : v = 0 := by omega
         simp_all; done)
set_option maxRecDepth 100000 in
set_option maxHeartbeats 4000000 in
theorem rch_2 (t f : ByteArray) (d v : Nat) (h b : ByteArray) (g : Bool) (hr : (Rv.mk 2 t f d v h b g).fit) (w : World) : Calls Tryd.prog 12 #[(Rv.mk 2 t f d v h b g).val] w fun e w' => e = .returned (.int .i64 (checkR ⟨2, t, f, d, v, h, b, g⟩)) ∧ Below w.heap.size w w' := by
  have hnt := fun W => rname_any t (Nat.le_trans hr.t (by omega)) W
  have hnf := fun W => rname_any f (Nat.le_trans hr.f (by omega)) W
  have hbs := hr.b
  have hd := hr.d
  have hv := hr.v
  simp only at hbs hd hv
  have hC : checkR ⟨2, t, f, d, v, h, b, g⟩ = if nameB t && (nameB f && decide (d = 0) && decide (v = 0)) && (h.toList.isEmpty && b.toList.isEmpty && !g) then 0 else 6 := by
    rw [empty_size, empty_size]
    rfl
  rw [hC, show (Rv.mk 2 t f d v h b g).val = .agg #[.int .i64 2, .string t, .string f, .int .u64 (d : Int), .int .u64 (v : Int), .string h, .string b, .bool g] from rfl]
  clear hC hr
  obtain ⟨T, hT⟩ : ∃ T, nameB t = T := ⟨_, rfl⟩
  rw [hT] at hnt ⊢
  obtain ⟨N, hN⟩ : ∃ N, nameB f = N := ⟨_, rfl⟩
  rw [hN] at hnf
  try rw [hN]
  obtain ⟨E, hE⟩ : ∃ E, f.toList.isEmpty = E := ⟨_, rfl⟩
  obtain ⟨X, hX⟩ : ∃ X, h.toList.isEmpty = X := ⟨_, rfl⟩
  obtain ⟨Y, hY⟩ : ∃ Y, b.toList.isEmpty = Y := ⟨_, rfl⟩
  try rw [hE]
  try rw [hX]
  try rw [hY]
  clear hT hN
  have hbw : ∀ o, Below w.heap.size w (w.alloc o) := fun o => (Below.refl _ w).alloc (Nat.le_refl _) o
  go_enter Tryd.func12, Tryd.ntmps12
  go_wp2_with fail
  refine (hnt _).mono ?_
  rintro e w1 ⟨rfl, rfl⟩
  go_wp2_with fail
  all_goals first
    | (go_ret; refine ⟨?_, hbw _⟩; simp_all)
    | (refine (hnf _).mono ?_
       rintro e w1 ⟨rfl, rfl⟩
       go_wp2
       all_goals
         go_ret
         refine ⟨?_, hbw _⟩
         simp_all)
set_option maxRecDepth 100000 in
set_option maxHeartbeats 4000000 in
theorem rch_5 (t f : ByteArray) (d v : Nat) (h b : ByteArray) (g : Bool) (hr : (Rv.mk 5 t f d v h b g).fit) (w : World) : Calls Tryd.prog 12 #[(Rv.mk 5 t f d v h b g).val] w fun e w' => e = .returned (.int .i64 (checkR ⟨5, t, f, d, v, h, b, g⟩)) ∧ Below w.heap.size w w' := by
  have hnt := fun W => rname_any t (Nat.le_trans hr.t (by omega)) W
  have hnf := fun W => rname_any f (Nat.le_trans hr.f (by omega)) W
  have hbs := hr.b
  have hd := hr.d
  have hv := hr.v
  simp only at hbs hd hv
  have hC : checkR ⟨5, t, f, d, v, h, b, g⟩ = if nameB t && (f.toList.isEmpty && decide (0 < d) && decide (0 < v)) && (h.toList.isEmpty && b.toList.isEmpty && !g) then 0 else 6 := by
    rw [empty_size, empty_size, empty_size]
    rfl
  rw [hC, show (Rv.mk 5 t f d v h b g).val = .agg #[.int .i64 5, .string t, .string f, .int .u64 (d : Int), .int .u64 (v : Int), .string h, .string b, .bool g] from rfl]
  clear hC hr
  obtain ⟨T, hT⟩ : ∃ T, nameB t = T := ⟨_, rfl⟩
  rw [hT] at hnt ⊢
  obtain ⟨N, hN⟩ : ∃ N, nameB f = N := ⟨_, rfl⟩
  rw [hN] at hnf
  try rw [hN]
  obtain ⟨E, hE⟩ : ∃ E, f.toList.isEmpty = E := ⟨_, rfl⟩
  obtain ⟨X, hX⟩ : ∃ X, h.toList.isEmpty = X := ⟨_, rfl⟩
  obtain ⟨Y, hY⟩ : ∃ Y, b.toList.isEmpty = Y := ⟨_, rfl⟩
  try rw [hE]
  try rw [hX]
  try rw [hY]
  clear hT hN
  have hbw : ∀ o, Below w.heap.size w (w.alloc o) := fun o => (Below.refl _ w).alloc (Nat.le_refl _) o
  go_enter Tryd.func12, Tryd.ntmps12
  go_wp2_with fail
  refine (hnt _).mono ?_
  rintro e w1 ⟨rfl, rfl⟩
  go_wp2_with fail
  all_goals
    go_ret
    refine ⟨?_, hbw _⟩
    first
      | (simp_all; done)
      | (simp_all; omega)
      | (have hv9 : v = 0 := by omega
         simp_all; done)
set_option maxRecDepth 100000 in
set_option maxHeartbeats 4000000 in
theorem rch_3g (t f : ByteArray) (d v : Nat) (h b : ByteArray) (hr : (Rv.mk 3 t f d v h b true).fit) (w : World) : Calls Tryd.prog 12 #[(Rv.mk 3 t f d v h b true).val] w fun e w' => e = .returned (.int .i64 (checkR ⟨3, t, f, d, v, h, b, true⟩)) ∧ Below w.heap.size w w' := by
  have hnt := fun W => rname_any t (Nat.le_trans hr.t (by omega)) W
  have hnf := fun W => rname_any f (Nat.le_trans hr.f (by omega)) W
  have hbs := hr.b
  have hd := hr.d
  have hv := hr.v
  simp only at hbs hd hv
  have hC : checkR ⟨3, t, f, d, v, h, b, true⟩ = if nameB t && (f.toList.isEmpty && decide (0 < d) && decide (v = 0)) && (b.toList.isEmpty && decide (h.size = 32)) then 0 else 6 := by
    rw [empty_size, empty_size]
    rfl
  rw [hC, show (Rv.mk 3 t f d v h b true).val = .agg #[.int .i64 3, .string t, .string f, .int .u64 (d : Int), .int .u64 (v : Int), .string h, .string b, .bool true] from rfl]
  clear hC hr
  obtain ⟨T, hT⟩ : ∃ T, nameB t = T := ⟨_, rfl⟩
  rw [hT] at hnt ⊢
  obtain ⟨N, hN⟩ : ∃ N, nameB f = N := ⟨_, rfl⟩
  rw [hN] at hnf
  try rw [hN]
  obtain ⟨E, hE⟩ : ∃ E, f.toList.isEmpty = E := ⟨_, rfl⟩
  obtain ⟨X, hX⟩ : ∃ X, h.toList.isEmpty = X := ⟨_, rfl⟩
  obtain ⟨Y, hY⟩ : ∃ Y, b.toList.isEmpty = Y := ⟨_, rfl⟩
  try rw [hE]
  try rw [hX]
  try rw [hY]
  clear hT hN
  have hbw : ∀ o, Below w.heap.size w (w.alloc o) := fun o => (Below.refl _ w).alloc (Nat.le_refl _) o
  go_enter Tryd.func12, Tryd.ntmps12
  go_wp2_with fail
  refine (hnt _).mono ?_
  rintro e w1 ⟨rfl, rfl⟩
  go_wp2_with fail
  all_goals
    go_ret
    refine ⟨?_, hbw _⟩
    first
      | (simp_all; done)
      | (simp_all; omega)
      | (have hv9 : v = 0 := by omega
         simp_all; done)
set_option maxRecDepth 100000 in
set_option maxHeartbeats 4000000 in
theorem rch_4g (t f : ByteArray) (d v : Nat) (h b : ByteArray) (hr : (Rv.mk 4 t f d v h b true).fit) (w : World) : Calls Tryd.prog 12 #[(Rv.mk 4 t f d v h b true).val] w fun e w' => e = .returned (.int .i64 (checkR ⟨4, t, f, d, v, h, b, true⟩)) ∧ Below w.heap.size w w' := by
  have hnt := fun W => rname_any t (Nat.le_trans hr.t (by omega)) W
  have hnf := fun W => rname_any f (Nat.le_trans hr.f (by omega)) W
  have hbs := hr.b
  have hd := hr.d
  have hv := hr.v
  simp only at hbs hd hv
  have hC : checkR ⟨4, t, f, d, v, h, b, true⟩ = if nameB t && (f.toList.isEmpty && decide (0 < d) && decide (0 < v)) && (b.toList.isEmpty && decide (h.size = 32)) then 0 else 6 := by
    rw [empty_size, empty_size]
    rfl
  rw [hC, show (Rv.mk 4 t f d v h b true).val = .agg #[.int .i64 4, .string t, .string f, .int .u64 (d : Int), .int .u64 (v : Int), .string h, .string b, .bool true] from rfl]
  clear hC hr
  obtain ⟨T, hT⟩ : ∃ T, nameB t = T := ⟨_, rfl⟩
  rw [hT] at hnt ⊢
  obtain ⟨N, hN⟩ : ∃ N, nameB f = N := ⟨_, rfl⟩
  rw [hN] at hnf
  try rw [hN]
  obtain ⟨E, hE⟩ : ∃ E, f.toList.isEmpty = E := ⟨_, rfl⟩
  obtain ⟨X, hX⟩ : ∃ X, h.toList.isEmpty = X := ⟨_, rfl⟩
  obtain ⟨Y, hY⟩ : ∃ Y, b.toList.isEmpty = Y := ⟨_, rfl⟩
  try rw [hE]
  try rw [hX]
  try rw [hY]
  clear hT hN
  have hbw : ∀ o, Below w.heap.size w (w.alloc o) := fun o => (Below.refl _ w).alloc (Nat.le_refl _) o
  go_enter Tryd.func12, Tryd.ntmps12
  go_wp2_with fail
  refine (hnt _).mono ?_
  rintro e w1 ⟨rfl, rfl⟩
  go_wp2_with fail
  all_goals
    go_ret
    refine ⟨?_, hbw _⟩
    first
      | (simp_all; done)
      | (simp_all; omega)
      | (have hv9 : v = 0 := by omega
         simp_all; done)
set_option maxRecDepth 100000 in
set_option maxHeartbeats 4000000 in
theorem rch_3h (t f : ByteArray) (d v : Nat) (h b : ByteArray) (hr : (Rv.mk 3 t f d v h b false).fit) (w : World) : Calls Tryd.prog 12 #[(Rv.mk 3 t f d v h b false).val] w fun e w' => e = .returned (.int .i64 (checkR ⟨3, t, f, d, v, h, b, false⟩)) ∧ Below w.heap.size w w' := by
  have hnt := fun W => rname_any t (Nat.le_trans hr.t (by omega)) W
  have hnf := fun W => rname_any f (Nat.le_trans hr.f (by omega)) W
  have hbs := hr.b
  have hd := hr.d
  have hv := hr.v
  simp only at hbs hd hv
  have hC : checkR ⟨3, t, f, d, v, h, b, false⟩ = if nameB t && (f.toList.isEmpty && decide (0 < d) && decide (v = 0)) && (decide (b.size ≤ 1024) && decide (h = sumS (leafT b))) then 0 else 6 := by
    rw [empty_size]
    rfl
  rw [hC, show (Rv.mk 3 t f d v h b false).val = .agg #[.int .i64 3, .string t, .string f, .int .u64 (d : Int), .int .u64 (v : Int), .string h, .string b, .bool false] from rfl]
  clear hC hr
  obtain ⟨T, hT⟩ : ∃ T, nameB t = T := ⟨_, rfl⟩
  rw [hT] at hnt ⊢
  obtain ⟨N, hN⟩ : ∃ N, nameB f = N := ⟨_, rfl⟩
  rw [hN] at hnf
  try rw [hN]
  obtain ⟨E, hE⟩ : ∃ E, f.toList.isEmpty = E := ⟨_, rfl⟩
  obtain ⟨X, hX⟩ : ∃ X, h.toList.isEmpty = X := ⟨_, rfl⟩
  obtain ⟨Y, hY⟩ : ∃ Y, b.toList.isEmpty = Y := ⟨_, rfl⟩
  try rw [hE]
  try rw [hX]
  try rw [hY]
  clear hT hN
  have hbw : ∀ o, Below w.heap.size w (w.alloc o) := fun o => (Below.refl _ w).alloc (Nat.le_refl _) o
  by_cases hv0 : v = 0
  · subst hv0
    rw [show ((0 : Nat) : Int) = 0 from rfl]
    by_cases h1 : b.size ≤ 1024
    · have h1' : (b.size : Int) ≤ 1024 := by omega
      have hlf := fun W => rleaf_any b (by omega) W
      obtain ⟨y, hy⟩ : ∃ y, sumS (leafT b) = y := ⟨_, rfl⟩
      rw [decide_eq_true h1]
      rw [hy] at hlf ⊢
      clear hy
      have hcmp : (h.toList == y.toList) = decide (h = y) := by
        by_cases e : h = y
        · subst e; simp
        · rw [beq_of_ne e, decide_eq_false e]
      obtain ⟨D, hD⟩ : ∃ D, decide (h = y) = D := ⟨_, rfl⟩
      rw [hD] at hcmp ⊢
      clear hD
      go_enter Tryd.func12, Tryd.ntmps12
      go_wp2_with fail
      refine (hnt _).mono ?_
      rintro e w1 ⟨rfl, rfl⟩
      go_wp2_with fail
      all_goals first
        | (go_quiet (fail)
           go_wp2
           all_goals
             go_ret
             refine ⟨?_, (hbw _).trans (below_drewN (Below.refl _ _) _)⟩
             simp_all)
        | skip
      obtain ⟨w1, hW1⟩ : ∃ w1, (w.alloc (.cells #[.int .i64 3, .string t, .string f, .int .u64 (d : Int), .int .u64 0, .string h, .string b, .bool false] 30)) = w1 := ⟨_, rfl⟩
      have hrow : w1.heap[w.heap.size]? = some (.cells #[.int .i64 3, .string t, .string f, .int .u64 (d : Int), .int .u64 0, .string h, .string b, .bool false] 30 (0, 0)) := by rw [← hW1]; exact heap_alloc_new _ _
      have hb1 : Below w.heap.size w w1 := by rw [← hW1]; exact hbw _
      have hlt : w.heap.size < w1.heap.size := lt_of_row hrow
      rw [hW1]
      refine quiet_class (C := fun W => Below w1.heap.size w1 W) (by kernel_rfl) (by kernel_rfl) (below_drewN (Below.refl _ _) 1) ?_
      go_big_quiet_step (fail)
      go_big_quiet_step (fail)
      refine BigFrame.wpQuiet_want (by rfl) (fun K hK => q_pure (v := .pointer (some ⟨w.heap.size, 6, none⟩)) (fun W => ?_) (hK _ ?_))
      · go_simp
      simp only [Act.put, List.setIfInBounds_toArray, List.set_cons_zero, List.set_cons_succ]
      refine BigFrame.wpQuiet_want (by rfl) (fun K hK => q_at (v := .string b) (fun W hW => ?_) (hK _ ?_))
      · have hcW : W.cell? ⟨w.heap.size, 6, none⟩ = some (.string b) := cell_of_row W _ 6 _ _ _ ((hW.block _ hlt).trans hrow)
        go_simp
      simp only [Act.put, List.setIfInBounds_toArray, List.set_cons_zero, List.set_cons_succ]
      refine BigFrame.wpQuiet_want (by rfl) (fun K hK => q_pure (v := .int .i64 (b.size : Int)) (fun W => ?_) (hK _ ?_))
      · go_simp
      simp only [Act.put, List.setIfInBounds_toArray, List.set_cons_zero, List.set_cons_succ]
      refine BigFrame.wpQuiet_want (by rfl) (fun K hK => q_pure (v := .bool true) (fun W => ?_) (hK _ ?_))
      · go_simp
      simp only [Act.put, List.setIfInBounds_toArray, List.set_cons_zero, List.set_cons_succ]
      refine BigFrame.wpQuiet_want (by rfl) (fun K hK => q_pure (v := .bool true) (fun W => ?_) (hK _ ?_))
      · go_simp
      simp only [Act.put, List.setIfInBounds_toArray, List.set_cons_zero, List.set_cons_succ]
      go_big_quiet_step (fail)
      refine BigFrame.wpQuiet_want (by rfl) (fun K hK => q_pure (v := .pointer (some ⟨w.heap.size, 5, none⟩)) (fun W => ?_) (hK _ ?_))
      · go_simp
      simp only [Act.put, List.setIfInBounds_toArray, List.set_cons_zero, List.set_cons_succ]
      refine BigFrame.wpQuiet_want (by rfl) (fun K hK => q_at (v := .string h) (fun W hW => ?_) (hK _ ?_))
      · have hcW : W.cell? ⟨w.heap.size, 5, none⟩ = some (.string h) := cell_of_row W _ 5 _ _ _ ((hW.block _ hlt).trans hrow)
        go_simp
      simp only [Act.put, List.setIfInBounds_toArray, List.set_cons_zero, List.set_cons_succ]
      refine BigFrame.wpQuiet_want (by rfl) (fun K hK => q_pure (v := .pointer (some ⟨w.heap.size, 6, none⟩)) (fun W => ?_) (hK _ ?_))
      · go_simp
      simp only [Act.put, List.setIfInBounds_toArray, List.set_cons_zero, List.set_cons_succ]
      refine BigFrame.wpQuiet_want (by rfl) (fun K hK => q_at (v := .string b) (fun W hW => ?_) (hK _ ?_))
      · have hcW : W.cell? ⟨w.heap.size, 6, none⟩ = some (.string b) := cell_of_row W _ 6 _ _ _ ((hW.block _ hlt).trans hrow)
        go_simp
      simp only [Act.put, List.setIfInBounds_toArray, List.set_cons_zero, List.set_cons_succ]
      refine BigFrame.wpQuiet_want (by rfl) (fun K hK => q_call (v := .string y) (f := 39) (args := #[.string b]) (fun W => ?_) (fun W hW => ?_) (hK _ ?_))
      · go_simp
      · refine (hlf W).mono ?_
        rintro e w' ⟨rfl, hb'⟩
        exact ⟨rfl, hW.trans (hb'.mono hW.size)⟩
      simp only [Act.put, List.setIfInBounds_toArray, List.set_cons_zero, List.set_cons_succ]
      refine BigFrame.wpQuiet_want (by rfl) (fun K hK => q_pure (v := .bool D) (fun W => ?_) (hK _ ?_))
      · go_simp
      simp only [Act.put, List.setIfInBounds_toArray, List.set_cons_zero, List.set_cons_succ]
      refine BigFrame.wpQuiet_want (by rfl) (fun K hK => q_pure (v := .bool D) (fun W => ?_) (hK _ ?_))
      · go_simp
      simp only [Act.put, List.setIfInBounds_toArray, List.set_cons_zero, List.set_cons_succ]
      go_big_quiet_step (fail)
      refine wpQuiet_nil ?_
      intro w2 hw2
      cases D with
      | true =>
        go_wp2
        all_goals
          go_ret
          refine ⟨?_, hb1.trans (hw2.mono hb1.size)⟩
          simp_all
      | false =>
        go_wp2
        all_goals
          go_ret
          refine ⟨?_, hb1.trans (hw2.mono hb1.size)⟩
          simp_all
    · have h1' : ¬ (b.size : Int) ≤ 1024 := by omega
      rw [decide_eq_false h1]
      go_enter Tryd.func12, Tryd.ntmps12
      go_wp2_with fail
      refine (hnt _).mono ?_
      rintro e w1 ⟨rfl, rfl⟩
      go_wp2_with fail
      all_goals first
        | (go_quiet (fail)
           go_wp2
           all_goals
             go_ret
             refine ⟨?_, (hbw _).trans (below_drewN (Below.refl _ _) _)⟩
             simp_all)
        | skip
      obtain ⟨w1, hW1⟩ : ∃ w1, (w.alloc (.cells #[.int .i64 3, .string t, .string f, .int .u64 (d : Int), .int .u64 0, .string h, .string b, .bool false] 30)) = w1 := ⟨_, rfl⟩
      have hrow : w1.heap[w.heap.size]? = some (.cells #[.int .i64 3, .string t, .string f, .int .u64 (d : Int), .int .u64 0, .string h, .string b, .bool false] 30 (0, 0)) := by rw [← hW1]; exact heap_alloc_new _ _
      have hb1 : Below w.heap.size w w1 := by rw [← hW1]; exact hbw _
      have hlt : w.heap.size < w1.heap.size := lt_of_row hrow
      rw [hW1]
      refine quiet_class (C := fun W => Below w1.heap.size w1 W) (by kernel_rfl) (by kernel_rfl) (below_drewN (Below.refl _ _) 1) ?_
      go_big_quiet_step (fail)
      go_big_quiet_step (fail)
      refine BigFrame.wpQuiet_want (by rfl) (fun K hK => q_pure (v := .pointer (some ⟨w.heap.size, 6, none⟩)) (fun W => ?_) (hK _ ?_))
      · go_simp
      simp only [Act.put, List.setIfInBounds_toArray, List.set_cons_zero, List.set_cons_succ]
      refine BigFrame.wpQuiet_want (by rfl) (fun K hK => q_at (v := .string b) (fun W hW => ?_) (hK _ ?_))
      · have hcW : W.cell? ⟨w.heap.size, 6, none⟩ = some (.string b) := cell_of_row W _ 6 _ _ _ ((hW.block _ hlt).trans hrow)
        go_simp
      simp only [Act.put, List.setIfInBounds_toArray, List.set_cons_zero, List.set_cons_succ]
      refine BigFrame.wpQuiet_want (by rfl) (fun K hK => q_pure (v := .int .i64 (b.size : Int)) (fun W => ?_) (hK _ ?_))
      · go_simp
      simp only [Act.put, List.setIfInBounds_toArray, List.set_cons_zero, List.set_cons_succ]
      refine BigFrame.wpQuiet_want (by rfl) (fun K hK => q_pure (v := .bool false) (fun W => ?_) (hK _ ?_))
      · go_simp
      simp only [Act.put, List.setIfInBounds_toArray, List.set_cons_zero, List.set_cons_succ]
      refine BigFrame.wpQuiet_want (by rfl) (fun K hK => q_pure (v := .bool false) (fun W => ?_) (hK _ ?_))
      · go_simp
      simp only [Act.put, List.setIfInBounds_toArray, List.set_cons_zero, List.set_cons_succ]
      go_big_quiet_step (fail)
      go_big_quiet_step (fail)
      go_big_quiet_step (fail)
      go_big_quiet_step (fail)
      go_big_quiet_step (fail)
      go_big_quiet_step (fail)
      go_big_quiet_step (fail)
      refine BigFrame.wpQuiet_want (by rfl) (fun K hK => q_pure (v := .bool false) (fun W => ?_) (hK _ ?_))
      · go_simp
      simp only [Act.put, List.setIfInBounds_toArray, List.set_cons_zero, List.set_cons_succ]
      go_big_quiet_step (fail)
      refine wpQuiet_nil ?_
      intro w2 hw2
      go_wp2
      all_goals
        go_ret
        refine ⟨?_, hb1.trans (hw2.mono hb1.size)⟩
        simp_all
  · have hv1 : ((v : Int) == 0) = false := by rw [beq_eq_false_iff_ne]; omega
    go_enter Tryd.func12, Tryd.ntmps12
    go_wp2_with fail
    refine (hnt _).mono ?_
    rintro e w1 ⟨rfl, rfl⟩
    go_wp2_with fail
    all_goals
      go_quiet (fail)
      go_wp2
      all_goals
        go_ret
        refine ⟨?_, (hbw _).trans (below_drewN (Below.refl _ _) _)⟩
        simp_all
set_option maxRecDepth 100000 in
set_option maxHeartbeats 4000000 in
theorem rch_4h (t f : ByteArray) (d v : Nat) (h b : ByteArray) (hr : (Rv.mk 4 t f d v h b false).fit) (w : World) : Calls Tryd.prog 12 #[(Rv.mk 4 t f d v h b false).val] w fun e w' => e = .returned (.int .i64 (checkR ⟨4, t, f, d, v, h, b, false⟩)) ∧ Below w.heap.size w w' := by
  have hnt := fun W => rname_any t (Nat.le_trans hr.t (by omega)) W
  have hnf := fun W => rname_any f (Nat.le_trans hr.f (by omega)) W
  have hbs := hr.b
  have hd := hr.d
  have hv := hr.v
  simp only at hbs hd hv
  have hC : checkR ⟨4, t, f, d, v, h, b, false⟩ = if nameB t && (f.toList.isEmpty && decide (0 < d) && decide (0 < v)) && (decide (b.size ≤ 1024) && decide (h = sumS (leafT b))) then 0 else 6 := by
    rw [empty_size]
    rfl
  rw [hC, show (Rv.mk 4 t f d v h b false).val = .agg #[.int .i64 4, .string t, .string f, .int .u64 (d : Int), .int .u64 (v : Int), .string h, .string b, .bool false] from rfl]
  clear hC hr
  obtain ⟨T, hT⟩ : ∃ T, nameB t = T := ⟨_, rfl⟩
  rw [hT] at hnt ⊢
  obtain ⟨N, hN⟩ : ∃ N, nameB f = N := ⟨_, rfl⟩
  rw [hN] at hnf
  try rw [hN]
  obtain ⟨E, hE⟩ : ∃ E, f.toList.isEmpty = E := ⟨_, rfl⟩
  obtain ⟨X, hX⟩ : ∃ X, h.toList.isEmpty = X := ⟨_, rfl⟩
  obtain ⟨Y, hY⟩ : ∃ Y, b.toList.isEmpty = Y := ⟨_, rfl⟩
  try rw [hE]
  try rw [hX]
  try rw [hY]
  clear hT hN
  have hbw : ∀ o, Below w.heap.size w (w.alloc o) := fun o => (Below.refl _ w).alloc (Nat.le_refl _) o
  by_cases hv0 : 0 < v
  · have hv1 : (0 : Int) < (v : Int) := by omega
    by_cases h1 : b.size ≤ 1024
    · have h1' : (b.size : Int) ≤ 1024 := by omega
      have hlf := fun W => rleaf_any b (by omega) W
      obtain ⟨y, hy⟩ : ∃ y, sumS (leafT b) = y := ⟨_, rfl⟩
      rw [decide_eq_true h1]
      rw [hy] at hlf ⊢
      clear hy
      have hcmp : (h.toList == y.toList) = decide (h = y) := by
        by_cases e : h = y
        · subst e; simp
        · rw [beq_of_ne e, decide_eq_false e]
      obtain ⟨D, hD⟩ : ∃ D, decide (h = y) = D := ⟨_, rfl⟩
      rw [hD] at hcmp ⊢
      clear hD
      go_enter Tryd.func12, Tryd.ntmps12
      go_wp2_with fail
      refine (hnt _).mono ?_
      rintro e w1 ⟨rfl, rfl⟩
      go_wp2_with fail
      all_goals first
        | (go_quiet (fail)
           go_wp2
           all_goals
             go_ret
             refine ⟨?_, (hbw _).trans (below_drewN (Below.refl _ _) _)⟩
             simp_all)
        | skip
      obtain ⟨w1, hW1⟩ : ∃ w1, (w.alloc (.cells #[.int .i64 4, .string t, .string f, .int .u64 (d : Int), .int .u64 (v : Int), .string h, .string b, .bool false] 30)) = w1 := ⟨_, rfl⟩
      have hrow : w1.heap[w.heap.size]? = some (.cells #[.int .i64 4, .string t, .string f, .int .u64 (d : Int), .int .u64 (v : Int), .string h, .string b, .bool false] 30 (0, 0)) := by rw [← hW1]; exact heap_alloc_new _ _
      have hb1 : Below w.heap.size w w1 := by rw [← hW1]; exact hbw _
      have hlt : w.heap.size < w1.heap.size := lt_of_row hrow
      rw [hW1]
      refine quiet_class (C := fun W => Below w1.heap.size w1 W) (by kernel_rfl) (by kernel_rfl) (below_drewN (Below.refl _ _) 1) ?_
      go_big_quiet_step (fail)
      go_big_quiet_step (fail)
      refine BigFrame.wpQuiet_want (by rfl) (fun K hK => q_pure (v := .pointer (some ⟨w.heap.size, 6, none⟩)) (fun W => ?_) (hK _ ?_))
      · go_simp
      simp only [Act.put, List.setIfInBounds_toArray, List.set_cons_zero, List.set_cons_succ]
      refine BigFrame.wpQuiet_want (by rfl) (fun K hK => q_at (v := .string b) (fun W hW => ?_) (hK _ ?_))
      · have hcW : W.cell? ⟨w.heap.size, 6, none⟩ = some (.string b) := cell_of_row W _ 6 _ _ _ ((hW.block _ hlt).trans hrow)
        go_simp
      simp only [Act.put, List.setIfInBounds_toArray, List.set_cons_zero, List.set_cons_succ]
      refine BigFrame.wpQuiet_want (by rfl) (fun K hK => q_pure (v := .int .i64 (b.size : Int)) (fun W => ?_) (hK _ ?_))
      · go_simp
      simp only [Act.put, List.setIfInBounds_toArray, List.set_cons_zero, List.set_cons_succ]
      refine BigFrame.wpQuiet_want (by rfl) (fun K hK => q_pure (v := .bool true) (fun W => ?_) (hK _ ?_))
      · go_simp
      simp only [Act.put, List.setIfInBounds_toArray, List.set_cons_zero, List.set_cons_succ]
      refine BigFrame.wpQuiet_want (by rfl) (fun K hK => q_pure (v := .bool true) (fun W => ?_) (hK _ ?_))
      · go_simp
      simp only [Act.put, List.setIfInBounds_toArray, List.set_cons_zero, List.set_cons_succ]
      go_big_quiet_step (fail)
      refine BigFrame.wpQuiet_want (by rfl) (fun K hK => q_pure (v := .pointer (some ⟨w.heap.size, 5, none⟩)) (fun W => ?_) (hK _ ?_))
      · go_simp
      simp only [Act.put, List.setIfInBounds_toArray, List.set_cons_zero, List.set_cons_succ]
      refine BigFrame.wpQuiet_want (by rfl) (fun K hK => q_at (v := .string h) (fun W hW => ?_) (hK _ ?_))
      · have hcW : W.cell? ⟨w.heap.size, 5, none⟩ = some (.string h) := cell_of_row W _ 5 _ _ _ ((hW.block _ hlt).trans hrow)
        go_simp
      simp only [Act.put, List.setIfInBounds_toArray, List.set_cons_zero, List.set_cons_succ]
      refine BigFrame.wpQuiet_want (by rfl) (fun K hK => q_pure (v := .pointer (some ⟨w.heap.size, 6, none⟩)) (fun W => ?_) (hK _ ?_))
      · go_simp
      simp only [Act.put, List.setIfInBounds_toArray, List.set_cons_zero, List.set_cons_succ]
      refine BigFrame.wpQuiet_want (by rfl) (fun K hK => q_at (v := .string b) (fun W hW => ?_) (hK _ ?_))
      · have hcW : W.cell? ⟨w.heap.size, 6, none⟩ = some (.string b) := cell_of_row W _ 6 _ _ _ ((hW.block _ hlt).trans hrow)
        go_simp
      simp only [Act.put, List.setIfInBounds_toArray, List.set_cons_zero, List.set_cons_succ]
      refine BigFrame.wpQuiet_want (by rfl) (fun K hK => q_call (v := .string y) (f := 39) (args := #[.string b]) (fun W => ?_) (fun W hW => ?_) (hK _ ?_))
      · go_simp
      · refine (hlf W).mono ?_
        rintro e w' ⟨rfl, hb'⟩
        exact ⟨rfl, hW.trans (hb'.mono hW.size)⟩
      simp only [Act.put, List.setIfInBounds_toArray, List.set_cons_zero, List.set_cons_succ]
      refine BigFrame.wpQuiet_want (by rfl) (fun K hK => q_pure (v := .bool D) (fun W => ?_) (hK _ ?_))
      · go_simp
      simp only [Act.put, List.setIfInBounds_toArray, List.set_cons_zero, List.set_cons_succ]
      refine BigFrame.wpQuiet_want (by rfl) (fun K hK => q_pure (v := .bool D) (fun W => ?_) (hK _ ?_))
      · go_simp
      simp only [Act.put, List.setIfInBounds_toArray, List.set_cons_zero, List.set_cons_succ]
      go_big_quiet_step (fail)
      refine wpQuiet_nil ?_
      intro w2 hw2
      cases D with
      | true =>
        go_wp2
        all_goals
          go_ret
          refine ⟨?_, hb1.trans (hw2.mono hb1.size)⟩
          simp_all
      | false =>
        go_wp2
        all_goals
          go_ret
          refine ⟨?_, hb1.trans (hw2.mono hb1.size)⟩
          simp_all
    · have h1' : ¬ (b.size : Int) ≤ 1024 := by omega
      rw [decide_eq_false h1]
      go_enter Tryd.func12, Tryd.ntmps12
      go_wp2_with fail
      refine (hnt _).mono ?_
      rintro e w1 ⟨rfl, rfl⟩
      go_wp2_with fail
      all_goals first
        | (go_quiet (fail)
           go_wp2
           all_goals
             go_ret
             refine ⟨?_, (hbw _).trans (below_drewN (Below.refl _ _) _)⟩
             simp_all)
        | skip
      obtain ⟨w1, hW1⟩ : ∃ w1, (w.alloc (.cells #[.int .i64 4, .string t, .string f, .int .u64 (d : Int), .int .u64 (v : Int), .string h, .string b, .bool false] 30)) = w1 := ⟨_, rfl⟩
      have hrow : w1.heap[w.heap.size]? = some (.cells #[.int .i64 4, .string t, .string f, .int .u64 (d : Int), .int .u64 (v : Int), .string h, .string b, .bool false] 30 (0, 0)) := by rw [← hW1]; exact heap_alloc_new _ _
      have hb1 : Below w.heap.size w w1 := by rw [← hW1]; exact hbw _
      have hlt : w.heap.size < w1.heap.size := lt_of_row hrow
      rw [hW1]
      refine quiet_class (C := fun W => Below w1.heap.size w1 W) (by kernel_rfl) (by kernel_rfl) (below_drewN (Below.refl _ _) 1) ?_
      go_big_quiet_step (fail)
      go_big_quiet_step (fail)
      refine BigFrame.wpQuiet_want (by rfl) (fun K hK => q_pure (v := .pointer (some ⟨w.heap.size, 6, none⟩)) (fun W => ?_) (hK _ ?_))
      · go_simp
      simp only [Act.put, List.setIfInBounds_toArray, List.set_cons_zero, List.set_cons_succ]
      refine BigFrame.wpQuiet_want (by rfl) (fun K hK => q_at (v := .string b) (fun W hW => ?_) (hK _ ?_))
      · have hcW : W.cell? ⟨w.heap.size, 6, none⟩ = some (.string b) := cell_of_row W _ 6 _ _ _ ((hW.block _ hlt).trans hrow)
        go_simp
      simp only [Act.put, List.setIfInBounds_toArray, List.set_cons_zero, List.set_cons_succ]
      refine BigFrame.wpQuiet_want (by rfl) (fun K hK => q_pure (v := .int .i64 (b.size : Int)) (fun W => ?_) (hK _ ?_))
      · go_simp
      simp only [Act.put, List.setIfInBounds_toArray, List.set_cons_zero, List.set_cons_succ]
      refine BigFrame.wpQuiet_want (by rfl) (fun K hK => q_pure (v := .bool false) (fun W => ?_) (hK _ ?_))
      · go_simp
      simp only [Act.put, List.setIfInBounds_toArray, List.set_cons_zero, List.set_cons_succ]
      refine BigFrame.wpQuiet_want (by rfl) (fun K hK => q_pure (v := .bool false) (fun W => ?_) (hK _ ?_))
      · go_simp
      simp only [Act.put, List.setIfInBounds_toArray, List.set_cons_zero, List.set_cons_succ]
      go_big_quiet_step (fail)
      go_big_quiet_step (fail)
      go_big_quiet_step (fail)
      go_big_quiet_step (fail)
      go_big_quiet_step (fail)
      go_big_quiet_step (fail)
      go_big_quiet_step (fail)
      refine BigFrame.wpQuiet_want (by rfl) (fun K hK => q_pure (v := .bool false) (fun W => ?_) (hK _ ?_))
      · go_simp
      simp only [Act.put, List.setIfInBounds_toArray, List.set_cons_zero, List.set_cons_succ]
      go_big_quiet_step (fail)
      refine wpQuiet_nil ?_
      intro w2 hw2
      go_wp2
      all_goals
        go_ret
        refine ⟨?_, hb1.trans (hw2.mono hb1.size)⟩
        simp_all
  · have hv1 : ¬ (0 : Int) < (v : Int) := by omega
    go_enter Tryd.func12, Tryd.ntmps12
    go_wp2_with fail
    refine (hnt _).mono ?_
    rintro e w1 ⟨rfl, rfl⟩
    go_wp2_with fail
    all_goals
      go_quiet (fail)
      go_wp2
      all_goals
        go_ret
        refine ⟨?_, (hbw _).trans (below_drewN (Below.refl _ _) _)⟩
        simp_all
set_option maxRecDepth 100000 in
set_option maxHeartbeats 4000000 in
theorem rch_low (op : Int) (t f : ByteArray) (d v : Nat) (h b : ByteArray) (g : Bool) (ho : op < 1) (w : World) : Calls Tryd.prog 12 #[(Rv.mk op t f d v h b g).val] w fun e w' => e = .returned (.int .i64 (checkR ⟨op, t, f, d, v, h, b, g⟩)) ∧ Below w.heap.size w w' := by
  have hC : checkR ⟨op, t, f, d, v, h, b, g⟩ = 6 := by
    have e1 : ¬ op = 1 := by omega
    have e2 : ¬ op = 2 := by omega
    have e3 : ¬ op = 3 := by omega
    have e4 : ¬ (op = 4 ∨ op = 5) := by omega
    have hF : fitsB ⟨op, t, f, d, v, h, b, g⟩ = false := by
      unfold fitsB
      simp only [e1, e2, e3, e4, if_false]
    unfold checkR revB
    rw [hF]
    simp
  rw [hC, show (Rv.mk op t f d v h b g).val = .agg #[.int .i64 op, .string t, .string f, .int .u64 (d : Int), .int .u64 (v : Int), .string h, .string b, .bool g] from rfl]
  clear hC
  have hbw : ∀ o, Below w.heap.size w (w.alloc o) := fun o => (Below.refl _ w).alloc (Nat.le_refl _) o
  have a1 : ¬ (1 : Int) ≤ op := by omega
  have a3 : op < 3 := by omega
  have a2 : (op == 2) = false := by rw [beq_eq_false_iff_ne]; omega
  have a4 : (op == 3) = false := by rw [beq_eq_false_iff_ne]; omega
  have a5 : (op != 3) = true := by rw [bne_iff_ne]; omega
  have a6 : (op != 4) = true := by rw [bne_iff_ne]; omega
  clear ho
  go_enter Tryd.func12, Tryd.ntmps12
  go_wp2
  all_goals
    go_ret
    exact ⟨rfl, hbw _⟩
set_option maxRecDepth 100000 in
set_option maxHeartbeats 4000000 in
theorem rch_high (op : Int) (t f : ByteArray) (d v : Nat) (h b : ByteArray) (g : Bool) (ho : 5 < op) (w : World) : Calls Tryd.prog 12 #[(Rv.mk op t f d v h b g).val] w fun e w' => e = .returned (.int .i64 (checkR ⟨op, t, f, d, v, h, b, g⟩)) ∧ Below w.heap.size w w' := by
  have hC : checkR ⟨op, t, f, d, v, h, b, g⟩ = 6 := by
    have e1 : ¬ op = 1 := by omega
    have e2 : ¬ op = 2 := by omega
    have e3 : ¬ op = 3 := by omega
    have e4 : ¬ (op = 4 ∨ op = 5) := by omega
    have hF : fitsB ⟨op, t, f, d, v, h, b, g⟩ = false := by
      unfold fitsB
      simp only [e1, e2, e3, e4, if_false]
    unfold checkR revB
    rw [hF]
    simp
  rw [hC, show (Rv.mk op t f d v h b g).val = .agg #[.int .i64 op, .string t, .string f, .int .u64 (d : Int), .int .u64 (v : Int), .string h, .string b, .bool g] from rfl]
  clear hC
  have hbw : ∀ o, Below w.heap.size w (w.alloc o) := fun o => (Below.refl _ w).alloc (Nat.le_refl _) o
  have a1 : (1 : Int) ≤ op := by omega
  have a0 : ¬ op ≤ 5 := by omega
  have a3 : ¬ op < 3 := by omega
  have a2 : (op == 2) = false := by rw [beq_eq_false_iff_ne]; omega
  have a4 : (op == 3) = false := by rw [beq_eq_false_iff_ne]; omega
  have a5 : (op != 3) = true := by rw [bne_iff_ne]; omega
  have a6 : (op != 4) = true := by rw [bne_iff_ne]; omega
  clear ho
  go_enter Tryd.func12, Tryd.ntmps12
  go_wp2
  all_goals
    go_ret
    exact ⟨rfl, hbw _⟩
theorem rcheck_any (r : Rv) (hr : r.fit) (w : World) : Calls Tryd.prog 12 #[r.val] w fun e w' => e = .returned (.int .i64 (checkR r)) ∧ Below w.heap.size w w' := by
  obtain ⟨op, t, f, d, v, h, b, g⟩ := r
  by_cases hl : op < 1
  · exact rch_low op t f d v h b g hl w
  by_cases hh : 5 < op
  · exact rch_high op t f d v h b g hh w
  obtain rfl | rfl | rfl | rfl | rfl : op = 1 ∨ op = 2 ∨ op = 3 ∨ op = 4 ∨ op = 5 := by omega
  · exact rch_1 t f d v h b g hr w
  · exact rch_2 t f d v h b g hr w
  · cases g with
    | true => exact rch_3g t f d v h b hr w
    | false => exact rch_3h t f d v h b hr w
  · cases g with
    | true => exact rch_4g t f d v h b hr w
    | false => exact rch_4h t f d v h b hr w
  · exact rch_5 t f d v h b g hr w
end Go.Proofs.YtaocbkloafhmeaaDoor
