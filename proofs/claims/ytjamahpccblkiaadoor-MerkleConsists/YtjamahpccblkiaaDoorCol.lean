/- The law MerkleConsists as a walk: of any roots, numbers and way, with the tables laid, the call returns true and nothing that was there has changed. -/
import Derived.Test.YtjamahpccblkiaaDoorRco
import Derived.Test.YtjamahpccblkiaaDoorVel
namespace Go.Proofs.YtjamahpccblkiaaDoor
open Go.RowKit
theorem con_both (root leaf : ByteArray) (m N : Int) (p : Option Addr) (n c : Nat) (g : Nat → ByteArray) : ∃ r : Int,
    (∀ w, Strs w p n c g → GL w → Calls Tryd.prog 24 #[.string root, .string leaf, .int .i64 m, .int .i64 N, .slice p n c] w fun e w' => e = .returned (.int .i64 r) ∧ Below w.heap.size w w') ∧
    (∀ w, Strs w p n c g → Calls Tryd.prog 26 #[.string root, .string leaf, .int .i64 m, .int .i64 N, .slice p n c] w fun e w' => e = .returned (.int .i64 r) ∧ Below w.heap.size w w') := by
  by_cases h : badC root leaf m N
  · refine ⟨1, fun w _ _ => (con_arg root leaf m N h _ w).mono ?_, fun w _ => (rcon_arg root leaf m N h _ w).mono ?_⟩
    · rintro e w' ⟨rfl, rfl⟩
      exact ⟨rfl, Below.refl _ _⟩
    · rintro e w' ⟨rfl, rfl⟩
      exact ⟨rfl, Below.refl _ _⟩
  · exact ⟨_, fun w H hG => con_any root leaf m N h p n c g w H hG, fun w H => rcon_any root leaf m N h p n c g w H⟩
set_option maxHeartbeats 4000000 in
theorem con_small (root leaf : ByteArray) (m N : Int) (p : Option Addr) (n c : Nat) (g : Nat → ByteArray) (hn : n ≤ 65) (w : World) (hG : GL w) (hD : GD w) (H : Strs w p n c g) :
    Calls Tryd.prog 7 #[.agg #[.string root, .string leaf, .int .i64 m, .int .i64 N, .slice p n c]] w fun e w' => e = .returned (.bool true) ∧ Below w.heap.size w w' := by
  have hcap := H.cap
  have hm : maxLen = 9223372036854775807 := rfl
  obtain ⟨r, hv, hr⟩ := con_both root leaf m N p n c g
  have hn' : ¬ (65 : Int) < (n : Int) := by omega
  have hb1 : Below w.heap.size w (w.alloc (.cells #[.string root, .string leaf, .int .i64 m, .int .i64 N, .slice p n c] 44)) := (Below.refl _ _).alloc (Nat.le_refl _) _
  have row : (w.alloc (.cells #[.string root, .string leaf, .int .i64 m, .int .i64 N, .slice p n c] 44)).heap[w.heap.size]? = some (.cells #[.string root, .string leaf, .int .i64 m, .int .i64 N, .slice p n c] 44 (0, 0)) := heap_alloc_new _ _
  have hG1 := hG.later hb1
  have hD1 := hD.later hb1
  have H1 := (H.later hb1).less n (by omega)
  go_enter Tryd.func7, Tryd.ntmps7
  obtain ⟨w1, hw1⟩ : ∃ w1, w.alloc (.cells #[.string root, .string leaf, .int .i64 m, .int .i64 N, .slice p n c] 44) = w1 := ⟨_, rfl⟩
  obtain ⟨c0, c1, c2, c3, c4⟩ := five_cells row
  have hBl := lt_of_row row
  rw [hw1] at hb1 hG1 hD1 H1 c0 c1 c2 c3 c4 hBl
  have HW : Hid (w.alloc (.cells #[.string root, .string leaf, .int .i64 m, .int .i64 N, .slice p n c] 44) = w1) := hw1
  clear row
  obtain ⟨B, hB⟩ : ∃ B, w.heap.size = B := ⟨_, rfl⟩
  rw [hB] at c0 c1 c2 c3 c4 hBl
  go_upto_region 1 with fail
  try rw [hw1]
  try rw [hB]
  clear hw1 hB
  go_wp2_with fail
  refine quiet_class (C := fun W => Below w1.heap.size w1 W) (by kernel_rfl) (by kernel_rfl) (below_drewN (Below.refl _ _) 1) ?_
  refine BigFrame.wpQuiet_want (by rfl) (fun K hK => q_call (v := .bool true) (f := 16) (args := #[]) (fun W => ?_) (fun W hW => ?_) (hK _ ?_))
  · go_simp
  · refine (awake_any W (hG1.later hW) (hD1.later hW)).mono ?_
    rintro e w' ⟨rfl, hb'⟩
    exact ⟨rfl, hW.trans (hb'.mono hW.size)⟩
  simp only [Act.put, List.setIfInBounds_toArray, List.set_cons_zero, List.set_cons_succ]
  go_big_quiet_step (fail)
  refine BigFrame.wpQuiet_want (by rfl) (fun K hK => q_pure (v := .pointer (some ⟨B, 0, none⟩)) (fun W => ?_) (hK _ ?_))
  · go_simp
  simp only [Act.put, List.setIfInBounds_toArray, List.set_cons_zero, List.set_cons_succ]
  refine BigFrame.wpQuiet_want (by rfl) (fun K hK => q_at (v := .string root) (fun W hW => ?_) (hK _ ?_))
  · have hcW := (hW.cell (p := ⟨B, 0, none⟩) hBl).trans c0
    go_simp
  simp only [Act.put, List.setIfInBounds_toArray, List.set_cons_zero, List.set_cons_succ]
  refine BigFrame.wpQuiet_want (by rfl) (fun K hK => q_pure (v := .pointer (some ⟨B, 1, none⟩)) (fun W => ?_) (hK _ ?_))
  · go_simp
  simp only [Act.put, List.setIfInBounds_toArray, List.set_cons_zero, List.set_cons_succ]
  refine BigFrame.wpQuiet_want (by rfl) (fun K hK => q_at (v := .string leaf) (fun W hW => ?_) (hK _ ?_))
  · have hcW := (hW.cell (p := ⟨B, 1, none⟩) hBl).trans c1
    go_simp
  simp only [Act.put, List.setIfInBounds_toArray, List.set_cons_zero, List.set_cons_succ]
  refine BigFrame.wpQuiet_want (by rfl) (fun K hK => q_pure (v := .pointer (some ⟨B, 2, none⟩)) (fun W => ?_) (hK _ ?_))
  · go_simp
  simp only [Act.put, List.setIfInBounds_toArray, List.set_cons_zero, List.set_cons_succ]
  refine BigFrame.wpQuiet_want (by rfl) (fun K hK => q_at (v := .int .i64 m) (fun W hW => ?_) (hK _ ?_))
  · have hcW := (hW.cell (p := ⟨B, 2, none⟩) hBl).trans c2
    go_simp
  simp only [Act.put, List.setIfInBounds_toArray, List.set_cons_zero, List.set_cons_succ]
  refine BigFrame.wpQuiet_want (by rfl) (fun K hK => q_pure (v := .pointer (some ⟨B, 3, none⟩)) (fun W => ?_) (hK _ ?_))
  · go_simp
  simp only [Act.put, List.setIfInBounds_toArray, List.set_cons_zero, List.set_cons_succ]
  refine BigFrame.wpQuiet_want (by rfl) (fun K hK => q_at (v := .int .i64 N) (fun W hW => ?_) (hK _ ?_))
  · have hcW := (hW.cell (p := ⟨B, 3, none⟩) hBl).trans c3
    go_simp
  simp only [Act.put, List.setIfInBounds_toArray, List.set_cons_zero, List.set_cons_succ]
  go_big_quiet_step (fail)
  refine BigFrame.wpQuiet_want (by rfl) (fun K hK => q_call (v := .int .i64 r) (f := 24) (args := #[.string root, .string leaf, .int .i64 m, .int .i64 N, .slice p n c]) (fun W => ?_) (fun W hW => ?_) (hK _ ?_))
  · go_simp
  · refine (hv W (H1.later hW) (hG1.later hW)).mono ?_
    rintro e w' ⟨rfl, hb'⟩
    exact ⟨rfl, hW.trans (hb'.mono hW.size)⟩
  simp only [Act.put, List.setIfInBounds_toArray, List.set_cons_zero, List.set_cons_succ]
  refine BigFrame.wpQuiet_want (by rfl) (fun K hK => q_pure (v := .pointer (some ⟨B, 0, none⟩)) (fun W => ?_) (hK _ ?_))
  · go_simp
  simp only [Act.put, List.setIfInBounds_toArray, List.set_cons_zero, List.set_cons_succ]
  refine BigFrame.wpQuiet_want (by rfl) (fun K hK => q_at (v := .string root) (fun W hW => ?_) (hK _ ?_))
  · have hcW := (hW.cell (p := ⟨B, 0, none⟩) hBl).trans c0
    go_simp
  simp only [Act.put, List.setIfInBounds_toArray, List.set_cons_zero, List.set_cons_succ]
  refine BigFrame.wpQuiet_want (by rfl) (fun K hK => q_pure (v := .pointer (some ⟨B, 1, none⟩)) (fun W => ?_) (hK _ ?_))
  · go_simp
  simp only [Act.put, List.setIfInBounds_toArray, List.set_cons_zero, List.set_cons_succ]
  refine BigFrame.wpQuiet_want (by rfl) (fun K hK => q_at (v := .string leaf) (fun W hW => ?_) (hK _ ?_))
  · have hcW := (hW.cell (p := ⟨B, 1, none⟩) hBl).trans c1
    go_simp
  simp only [Act.put, List.setIfInBounds_toArray, List.set_cons_zero, List.set_cons_succ]
  refine BigFrame.wpQuiet_want (by rfl) (fun K hK => q_pure (v := .pointer (some ⟨B, 2, none⟩)) (fun W => ?_) (hK _ ?_))
  · go_simp
  simp only [Act.put, List.setIfInBounds_toArray, List.set_cons_zero, List.set_cons_succ]
  refine BigFrame.wpQuiet_want (by rfl) (fun K hK => q_at (v := .int .i64 m) (fun W hW => ?_) (hK _ ?_))
  · have hcW := (hW.cell (p := ⟨B, 2, none⟩) hBl).trans c2
    go_simp
  simp only [Act.put, List.setIfInBounds_toArray, List.set_cons_zero, List.set_cons_succ]
  refine BigFrame.wpQuiet_want (by rfl) (fun K hK => q_pure (v := .pointer (some ⟨B, 3, none⟩)) (fun W => ?_) (hK _ ?_))
  · go_simp
  simp only [Act.put, List.setIfInBounds_toArray, List.set_cons_zero, List.set_cons_succ]
  refine BigFrame.wpQuiet_want (by rfl) (fun K hK => q_at (v := .int .i64 N) (fun W hW => ?_) (hK _ ?_))
  · have hcW := (hW.cell (p := ⟨B, 3, none⟩) hBl).trans c3
    go_simp
  simp only [Act.put, List.setIfInBounds_toArray, List.set_cons_zero, List.set_cons_succ]
  go_big_quiet_step (fail)
  refine BigFrame.wpQuiet_want (by rfl) (fun K hK => q_call (v := .int .i64 r) (f := 26) (args := #[.string root, .string leaf, .int .i64 m, .int .i64 N, .slice p n c]) (fun W => ?_) (fun W hW => ?_) (hK _ ?_))
  · go_simp
  · refine (hr W (H1.later hW)).mono ?_
    rintro e w' ⟨rfl, hb'⟩
    exact ⟨rfl, hW.trans (hb'.mono hW.size)⟩
  simp only [Act.put, List.setIfInBounds_toArray, List.set_cons_zero, List.set_cons_succ]
  refine BigFrame.wpQuiet_want (by rfl) (fun K hK => q_pure (v := .bool true) (fun W => ?_) (hK _ ?_))
  · go_simp
  simp only [Act.put, List.setIfInBounds_toArray, List.set_cons_zero, List.set_cons_succ]
  refine BigFrame.wpQuiet_want (by rfl) (fun K hK => q_pure (v := .bool true) (fun W => ?_) (hK _ ?_))
  · go_simp
  simp only [Act.put, List.setIfInBounds_toArray, List.set_cons_zero, List.set_cons_succ]
  go_big_quiet_step (fail)
  refine wpQuiet_nil (fun w' hW => ?_)
  go_wp2
  go_ret
  exact ⟨rfl, hb1.trans (hW.mono hb1.size)⟩
set_option maxHeartbeats 4000000 in
theorem con_big (root leaf : ByteArray) (m N : Int) (p : Option Addr) (n c : Nat) (g : Nat → ByteArray) (hn : 65 < n) (w : World) (hG : GL w) (hD : GD w) (H : Strs w p n c g) :
    Calls Tryd.prog 7 #[.agg #[.string root, .string leaf, .int .i64 m, .int .i64 N, .slice p n c]] w fun e w' => e = .returned (.bool true) ∧ Below w.heap.size w w' := by
  have hcap := H.cap
  have hm : maxLen = 9223372036854775807 := rfl
  obtain ⟨r, hv, hr⟩ := con_both root leaf m N p 65 c g
  have hn' : (65 : Int) < (n : Int) := by omega
  have hb1 : Below w.heap.size w (w.alloc (.cells #[.string root, .string leaf, .int .i64 m, .int .i64 N, .slice p n c] 44)) := (Below.refl _ _).alloc (Nat.le_refl _) _
  have row : (w.alloc (.cells #[.string root, .string leaf, .int .i64 m, .int .i64 N, .slice p n c] 44)).heap[w.heap.size]? = some (.cells #[.string root, .string leaf, .int .i64 m, .int .i64 N, .slice p n c] 44 (0, 0)) := heap_alloc_new _ _
  have hG1 := hG.later hb1
  have hD1 := hD.later hb1
  have H1 := (H.later hb1).less 65 (by omega)
  go_enter Tryd.func7, Tryd.ntmps7
  obtain ⟨w1, hw1⟩ : ∃ w1, w.alloc (.cells #[.string root, .string leaf, .int .i64 m, .int .i64 N, .slice p n c] 44) = w1 := ⟨_, rfl⟩
  obtain ⟨c0, c1, c2, c3, c4⟩ := five_cells row
  have hBl := lt_of_row row
  rw [hw1] at hb1 hG1 hD1 H1 c0 c1 c2 c3 c4 hBl
  have HW : Hid (w.alloc (.cells #[.string root, .string leaf, .int .i64 m, .int .i64 N, .slice p n c] 44) = w1) := hw1
  clear row
  obtain ⟨B, hB⟩ : ∃ B, w.heap.size = B := ⟨_, rfl⟩
  rw [hB] at c0 c1 c2 c3 c4 hBl
  go_upto_region 1 with fail
  try rw [hw1]
  try rw [hB]
  clear hw1 hB
  go_wp2_with fail
  refine quiet_class (C := fun W => Below w1.heap.size w1 W) (by kernel_rfl) (by kernel_rfl) (below_drewN (Below.refl _ _) 1) ?_
  refine BigFrame.wpQuiet_want (by rfl) (fun K hK => q_call (v := .bool true) (f := 16) (args := #[]) (fun W => ?_) (fun W hW => ?_) (hK _ ?_))
  · go_simp
  · refine (awake_any W (hG1.later hW) (hD1.later hW)).mono ?_
    rintro e w' ⟨rfl, hb'⟩
    exact ⟨rfl, hW.trans (hb'.mono hW.size)⟩
  simp only [Act.put, List.setIfInBounds_toArray, List.set_cons_zero, List.set_cons_succ]
  go_big_quiet_step (fail)
  refine BigFrame.wpQuiet_want (by rfl) (fun K hK => q_pure (v := .pointer (some ⟨B, 0, none⟩)) (fun W => ?_) (hK _ ?_))
  · go_simp
  simp only [Act.put, List.setIfInBounds_toArray, List.set_cons_zero, List.set_cons_succ]
  refine BigFrame.wpQuiet_want (by rfl) (fun K hK => q_at (v := .string root) (fun W hW => ?_) (hK _ ?_))
  · have hcW := (hW.cell (p := ⟨B, 0, none⟩) hBl).trans c0
    go_simp
  simp only [Act.put, List.setIfInBounds_toArray, List.set_cons_zero, List.set_cons_succ]
  refine BigFrame.wpQuiet_want (by rfl) (fun K hK => q_pure (v := .pointer (some ⟨B, 1, none⟩)) (fun W => ?_) (hK _ ?_))
  · go_simp
  simp only [Act.put, List.setIfInBounds_toArray, List.set_cons_zero, List.set_cons_succ]
  refine BigFrame.wpQuiet_want (by rfl) (fun K hK => q_at (v := .string leaf) (fun W hW => ?_) (hK _ ?_))
  · have hcW := (hW.cell (p := ⟨B, 1, none⟩) hBl).trans c1
    go_simp
  simp only [Act.put, List.setIfInBounds_toArray, List.set_cons_zero, List.set_cons_succ]
  refine BigFrame.wpQuiet_want (by rfl) (fun K hK => q_pure (v := .pointer (some ⟨B, 2, none⟩)) (fun W => ?_) (hK _ ?_))
  · go_simp
  simp only [Act.put, List.setIfInBounds_toArray, List.set_cons_zero, List.set_cons_succ]
  refine BigFrame.wpQuiet_want (by rfl) (fun K hK => q_at (v := .int .i64 m) (fun W hW => ?_) (hK _ ?_))
  · have hcW := (hW.cell (p := ⟨B, 2, none⟩) hBl).trans c2
    go_simp
  simp only [Act.put, List.setIfInBounds_toArray, List.set_cons_zero, List.set_cons_succ]
  refine BigFrame.wpQuiet_want (by rfl) (fun K hK => q_pure (v := .pointer (some ⟨B, 3, none⟩)) (fun W => ?_) (hK _ ?_))
  · go_simp
  simp only [Act.put, List.setIfInBounds_toArray, List.set_cons_zero, List.set_cons_succ]
  refine BigFrame.wpQuiet_want (by rfl) (fun K hK => q_at (v := .int .i64 N) (fun W hW => ?_) (hK _ ?_))
  · have hcW := (hW.cell (p := ⟨B, 3, none⟩) hBl).trans c3
    go_simp
  simp only [Act.put, List.setIfInBounds_toArray, List.set_cons_zero, List.set_cons_succ]
  go_big_quiet_step (fail)
  refine BigFrame.wpQuiet_want (by rfl) (fun K hK => q_call (v := .int .i64 r) (f := 24) (args := #[.string root, .string leaf, .int .i64 m, .int .i64 N, .slice p 65 c]) (fun W => ?_) (fun W hW => ?_) (hK _ ?_))
  · go_simp
  · refine (hv W (H1.later hW) (hG1.later hW)).mono ?_
    rintro e w' ⟨rfl, hb'⟩
    exact ⟨rfl, hW.trans (hb'.mono hW.size)⟩
  simp only [Act.put, List.setIfInBounds_toArray, List.set_cons_zero, List.set_cons_succ]
  refine BigFrame.wpQuiet_want (by rfl) (fun K hK => q_pure (v := .pointer (some ⟨B, 0, none⟩)) (fun W => ?_) (hK _ ?_))
  · go_simp
  simp only [Act.put, List.setIfInBounds_toArray, List.set_cons_zero, List.set_cons_succ]
  refine BigFrame.wpQuiet_want (by rfl) (fun K hK => q_at (v := .string root) (fun W hW => ?_) (hK _ ?_))
  · have hcW := (hW.cell (p := ⟨B, 0, none⟩) hBl).trans c0
    go_simp
  simp only [Act.put, List.setIfInBounds_toArray, List.set_cons_zero, List.set_cons_succ]
  refine BigFrame.wpQuiet_want (by rfl) (fun K hK => q_pure (v := .pointer (some ⟨B, 1, none⟩)) (fun W => ?_) (hK _ ?_))
  · go_simp
  simp only [Act.put, List.setIfInBounds_toArray, List.set_cons_zero, List.set_cons_succ]
  refine BigFrame.wpQuiet_want (by rfl) (fun K hK => q_at (v := .string leaf) (fun W hW => ?_) (hK _ ?_))
  · have hcW := (hW.cell (p := ⟨B, 1, none⟩) hBl).trans c1
    go_simp
  simp only [Act.put, List.setIfInBounds_toArray, List.set_cons_zero, List.set_cons_succ]
  refine BigFrame.wpQuiet_want (by rfl) (fun K hK => q_pure (v := .pointer (some ⟨B, 2, none⟩)) (fun W => ?_) (hK _ ?_))
  · go_simp
  simp only [Act.put, List.setIfInBounds_toArray, List.set_cons_zero, List.set_cons_succ]
  refine BigFrame.wpQuiet_want (by rfl) (fun K hK => q_at (v := .int .i64 m) (fun W hW => ?_) (hK _ ?_))
  · have hcW := (hW.cell (p := ⟨B, 2, none⟩) hBl).trans c2
    go_simp
  simp only [Act.put, List.setIfInBounds_toArray, List.set_cons_zero, List.set_cons_succ]
  refine BigFrame.wpQuiet_want (by rfl) (fun K hK => q_pure (v := .pointer (some ⟨B, 3, none⟩)) (fun W => ?_) (hK _ ?_))
  · go_simp
  simp only [Act.put, List.setIfInBounds_toArray, List.set_cons_zero, List.set_cons_succ]
  refine BigFrame.wpQuiet_want (by rfl) (fun K hK => q_at (v := .int .i64 N) (fun W hW => ?_) (hK _ ?_))
  · have hcW := (hW.cell (p := ⟨B, 3, none⟩) hBl).trans c3
    go_simp
  simp only [Act.put, List.setIfInBounds_toArray, List.set_cons_zero, List.set_cons_succ]
  go_big_quiet_step (fail)
  refine BigFrame.wpQuiet_want (by rfl) (fun K hK => q_call (v := .int .i64 r) (f := 26) (args := #[.string root, .string leaf, .int .i64 m, .int .i64 N, .slice p 65 c]) (fun W => ?_) (fun W hW => ?_) (hK _ ?_))
  · go_simp
  · refine (hr W (H1.later hW)).mono ?_
    rintro e w' ⟨rfl, hb'⟩
    exact ⟨rfl, hW.trans (hb'.mono hW.size)⟩
  simp only [Act.put, List.setIfInBounds_toArray, List.set_cons_zero, List.set_cons_succ]
  refine BigFrame.wpQuiet_want (by rfl) (fun K hK => q_pure (v := .bool true) (fun W => ?_) (hK _ ?_))
  · go_simp
  simp only [Act.put, List.setIfInBounds_toArray, List.set_cons_zero, List.set_cons_succ]
  refine BigFrame.wpQuiet_want (by rfl) (fun K hK => q_pure (v := .bool true) (fun W => ?_) (hK _ ?_))
  · go_simp
  simp only [Act.put, List.setIfInBounds_toArray, List.set_cons_zero, List.set_cons_succ]
  go_big_quiet_step (fail)
  refine wpQuiet_nil (fun w' hW => ?_)
  go_wp2
  go_ret
  exact ⟨rfl, hb1.trans (hW.mono hb1.size)⟩
theorem consists_walk (root leaf : ByteArray) (m N : Int) (p : Option Addr) (n c : Nat) (g : Nat → ByteArray) (w : World) (hG : GL w) (hD : GD w) (H : Strs w p n c g)
    (_ : -9223372036854775808 ≤ m ∧ m ≤ 9223372036854775807) (_ : -9223372036854775808 ≤ N ∧ N ≤ 9223372036854775807) (_ : root.size ≤ maxLen) (_ : leaf.size ≤ maxLen) :
    Calls Tryd.prog 7 #[.agg #[.string root, .string leaf, .int .i64 m, .int .i64 N, .slice p n c]] w fun e w' => e = .returned (.bool true) ∧ Below w.heap.size w w' := by
  by_cases h : n ≤ 65
  · exact con_small root leaf m N p n c g h w hG hD H
  · exact con_big root leaf m N p n c g (by omega) w hG hD H
end Go.Proofs.YtjamahpccblkiaaDoor
