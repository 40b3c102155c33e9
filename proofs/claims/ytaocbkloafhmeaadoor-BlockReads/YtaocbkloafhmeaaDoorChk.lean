/- Which revisions may be, as plain facts; hasBody, fits, checkBody, Check, called. -/
import Derived.Test.YtaocbkloafhmeaaDoorRex
import Derived.Test.YtaocbkloafhmeaaDoorName
import Derived.Deep.RegionHeld3
import Derived.Deep.Cut
import Derived.Deep.QuietTactic
namespace Go.Proofs.YtaocbkloafhmeaaDoor
open Go.RowKit
def bodied (op : Int) : Bool := decide (op = 3) || decide (op = 4)
def noneB (s : ByteArray) : Bool := decide (s.size = 0)
def fitsB (r : Rv) : Bool :=
  if r.op = 1 then noneB r.f && decide (r.d = 0) && decide (r.v = 0)
  else if r.op = 2 then nameB r.f && decide (r.d = 0) && decide (r.v = 0)
  else if r.op = 3 then noneB r.f && decide (0 < r.d) && decide (r.v = 0)
  else if r.op = 4 ∨ r.op = 5 then noneB r.f && decide (0 < r.d) && decide (0 < r.v)
  else false
def goneB (r : Rv) : Bool := noneB r.b && decide (r.h.size = 32)
def hereB (r : Rv) : Bool := decide (r.b.size ≤ 1024) && decide (r.h = sumS (leafT r.b))
def bodyB (r : Rv) : Bool := if r.g then goneB r else hereB r
def restB (r : Rv) : Bool := if bodied r.op then bodyB r else noneB r.h && noneB r.b && !r.g
def revB (r : Rv) : Bool := nameB r.t && fitsB r && restB r
def checkR (r : Rv) : Int := if revB r then 0 else 6
set_option maxHeartbeats 400000 in
theorem has_any (op : Int) (w : World) : Calls Tryd.prog 34 #[.int .i64 op] w fun e w' => e = .returned (.bool (bodied op)) ∧ w' = w := by
  obtain ⟨F, hF⟩ : ∃ F, bodied op = F := ⟨_, rfl⟩
  rw [hF]
  have HF : Hid (bodied op = F) := hF
  clear hF
  go_enter Tryd.func34, Tryd.ntmps34
  go_wp2
  all_goals
    go_ret
    refine ⟨?_, rfl⟩
    have := HF.out
    unfold bodied at this
    subst this
    simp_all
    try rfl
set_option maxRecDepth 100000 in
set_option maxHeartbeats 1000000 in
theorem fits_any (r : Rv) (hr : r.fit) (w : World) : Calls Tryd.prog 36 #[r.val] w fun e w' => e = .returned (.bool (fitsB r)) ∧ Below w.heap.size w w' := by
  obtain ⟨op, t, f, d, v, h, b, g⟩ := r
  obtain ⟨-, -, hd, hv, -, -, -, -⟩ := hr
  simp only at hd hv
  have hnm := fun W => name_any f W
  have hne := empty_size f
  obtain ⟨N, hN⟩ : ∃ N, nameB f = N := ⟨_, rfl⟩
  have hf : fitsB ⟨op, t, f, d, v, h, b, g⟩ = if op = 1 then noneB f && decide (d = 0) && decide (v = 0)
  else if op = 2 then N && decide (d = 0) && decide (v = 0)
  else if op = 3 then noneB f && decide (0 < d) && decide (v = 0)
  else if op = 4 ∨ op = 5 then noneB f && decide (0 < d) && decide (0 < v)
  else false := by rw [← hN]; rfl
  rw [hN] at hnm
  obtain ⟨F, hF⟩ : ∃ F, fitsB ⟨op, t, f, d, v, h, b, g⟩ = F := ⟨_, rfl⟩
  rw [hF] at hf ⊢
  have HF : Hid (F = if op = 1 then noneB f && decide (d = 0) && decide (v = 0)
  else if op = 2 then N && decide (d = 0) && decide (v = 0)
  else if op = 3 then noneB f && decide (0 < d) && decide (v = 0)
  else if op = 4 ∨ op = 5 then noneB f && decide (0 < d) && decide (0 < v)
  else false) := hf
  obtain ⟨E, hE⟩ : ∃ E, noneB f = E := ⟨_, rfl⟩
  have hne' : f.toList.isEmpty = E := hne.trans hE
  rw [hE] at HF
  clear hf hF hN hE hne
  rw [show (Rv.mk op t f d v h b g).val = .agg #[.int .i64 op, .string t, .string f, .int .u64 (d : Int), .int .u64 (v : Int), .string h, .string b, .bool g] from rfl]
  go_enter Tryd.func36, Tryd.ntmps36
  go_wp2_with fail
  all_goals first
    | (refine (hnm _).mono ?_
       rintro e w1 ⟨rfl, rfl⟩
       go_wp2
       all_goals
         go_ret
         refine ⟨?_, (Below.refl _ w).alloc (Nat.le_refl _) _⟩
         rw [HF.out]
         clear HF
         simp_all
         try (rw [Bool.eq_iff_iff]; simp))
    | (go_ret
       refine ⟨?_, (Below.refl _ w).alloc (Nat.le_refl _) _⟩
       rw [HF.out]
       clear HF
       simp_all
       try (rw [Bool.eq_iff_iff]; simp))
theorem gl_later {w w' : World} (h : GL w) (hb : Below w.heap.size w w') : GL w' := h.later hb
set_option maxRecDepth 100000 in
set_option maxHeartbeats 2000000 in
theorem body_any (r : Rv) (hr : r.fit) (w : World) (hG : GL w) : Calls Tryd.prog 37 #[r.val] w fun e w' => e = .returned (.int .i64 (if bodyB r then 0 else 6)) ∧ Below w.heap.size w w' := by
  obtain ⟨op, t, f, d, v, h, b, g⟩ := r
  obtain ⟨-, -, hd, hv, -, -, -, hb⟩ := hr
  simp only at hd hv hb
  rw [show (Rv.mk op t f d v h b g).val = .agg #[.int .i64 op, .string t, .string f, .int .u64 (d : Int), .int .u64 (v : Int), .string h, .string b, .bool g] from rfl]
  cases g with
  | true =>
    have hB : bodyB ⟨op, t, f, d, v, h, b, true⟩ = (b.toList.isEmpty && decide (h.size = 32)) := by
      rw [empty_size]
      rfl
    obtain ⟨E, hE⟩ : ∃ E, b.toList.isEmpty = E := ⟨_, rfl⟩
    rw [hB, hE]
    clear hB
    go_enter Tryd.func37, Tryd.ntmps37
    go_wp2
    all_goals
      go_ret
      refine ⟨?_, (Below.refl _ w).alloc (Nat.le_refl _) _⟩
      have hI : ∀ n : Nat, ((n : Int) = 32) = (n = 32) := fun n => propext (by omega)
      simp_all
  | false =>
    have hB : bodyB ⟨op, t, f, d, v, h, b, false⟩ = (decide (b.size ≤ 1024) && decide (h = sumS (leafT b))) := rfl
    rw [hB]
    clear hB
    by_cases h1 : b.size ≤ 1024
    · have h1' : ¬ (1024 : Int) < (b.size : Int) := by omega
      have hlf := fun W hG => leaf_any b (by omega) W hG
      obtain ⟨y, hy⟩ : ∃ y, sumS (leafT b) = y := ⟨_, rfl⟩
      rw [decide_eq_true h1]
      rw [hy] at hlf ⊢
      clear hy
      have hcmp : (h.toList == y.toList) = decide (h = y) := by
        by_cases e : h = y
        · subst e; simp
        · rw [beq_of_ne e, decide_eq_false e]
      obtain ⟨D, hD⟩ : ∃ D, decide (h = y) = D := ⟨_, rfl⟩
      rw [hD] at hcmp ⊢
      clear hD
      go_enter Tryd.func37, Tryd.ntmps37
      go_upto_region 5 with fail
      obtain ⟨w1, hW1⟩ : ∃ w1, (w.alloc (.cells #[.int .i64 op, .string t, .string f, .int .u64 (d : Int), .int .u64 (v : Int), .string h, .string b, .bool false] 24)) = w1 := ⟨_, rfl⟩
      have hrow : w1.heap[w.heap.size]? = some (.cells #[.int .i64 op, .string t, .string f, .int .u64 (d : Int), .int .u64 (v : Int), .string h, .string b, .bool false] 24 (0, 0)) := by rw [← hW1]; exact heap_alloc_new _ _
      have hb1 : Below w.heap.size w w1 := by rw [← hW1]; exact (Below.refl _ w).alloc (Nat.le_refl _) _
      have hlt : w.heap.size < w1.heap.size := lt_of_row hrow
      have hG1 := hG.later hb1
      rw [hW1]
      refine quiet_class (C := fun W => Below w1.heap.size w1 W) (by kernel_rfl) (by kernel_rfl) (below_drewN (Below.refl _ _) 1) ?_
      refine BigFrame.wpQuiet_want (by rfl) (fun K hK => q_pure (v := .pointer (some ⟨w.heap.size, 6, none⟩)) (fun W => ?_) (hK _ ?_))
      · go_simp
      simp only [Act.put, List.setIfInBounds_toArray, List.set_cons_zero, List.set_cons_succ]
      refine BigFrame.wpQuiet_want (by rfl) (fun K hK => q_at (v := .string b) (fun W hW => ?_) (hK _ ?_))
      · have hcW : W.cell? ⟨w.heap.size, 6, none⟩ = some (.string b) := cell_of_row W _ 6 _ _ _ ((hW.block _ hlt).trans hrow)
        go_simp
      simp only [Act.put, List.setIfInBounds_toArray, List.set_cons_zero, List.set_cons_succ]
      refine BigFrame.wpQuiet_want (by rfl) (fun K hK => q_pure (v := .int .i64 (b.size : Int)) (fun W => ?_) (hK _ ?_))
      · go_simp
      simp only [Act.put, List.setIfInBounds_toArray, List.set_cons_zero, List.set_cons_succ]
      refine BigFrame.wpQuiet_want (by rfl) (fun K hK => q_pure (v := .bool false) (fun W => ?_) (hK _ ?_))
      · go_simp
      simp only [Act.put, List.setIfInBounds_toArray, List.set_cons_zero, List.set_cons_succ]
      go_big_quiet_step (fail)
      refine BigFrame.wpQuiet_want (by rfl) (fun K hK => q_pure (v := .pointer (some ⟨w.heap.size, 5, none⟩)) (fun W => ?_) (hK _ ?_))
      · go_simp
      simp only [Act.put, List.setIfInBounds_toArray, List.set_cons_zero, List.set_cons_succ]
      refine BigFrame.wpQuiet_want (by rfl) (fun K hK => q_at (v := .string h) (fun W hW => ?_) (hK _ ?_))
      · have hcW : W.cell? ⟨w.heap.size, 5, none⟩ = some (.string h) := cell_of_row W _ 5 _ _ _ ((hW.block _ hlt).trans hrow)
        go_simp
      simp only [Act.put, List.setIfInBounds_toArray, List.set_cons_zero, List.set_cons_succ]
      refine BigFrame.wpQuiet_want (by rfl) (fun K hK => q_pure (v := .pointer (some ⟨w.heap.size, 6, none⟩)) (fun W => ?_) (hK _ ?_))
      · go_simp
      simp only [Act.put, List.setIfInBounds_toArray, List.set_cons_zero, List.set_cons_succ]
      refine BigFrame.wpQuiet_want (by rfl) (fun K hK => q_at (v := .string b) (fun W hW => ?_) (hK _ ?_))
      · have hcW : W.cell? ⟨w.heap.size, 6, none⟩ = some (.string b) := cell_of_row W _ 6 _ _ _ ((hW.block _ hlt).trans hrow)
        go_simp
      simp only [Act.put, List.setIfInBounds_toArray, List.set_cons_zero, List.set_cons_succ]
      refine BigFrame.wpQuiet_want (by rfl) (fun K hK => q_call (v := .string y) (f := 15) (args := #[.string b]) (fun W => ?_) (fun W hW => ?_) (hK _ ?_))
      · go_simp
      · refine (hlf W (hG1.later hW)).mono ?_
        rintro e w' ⟨rfl, hb'⟩
        exact ⟨rfl, hW.trans (hb'.mono hW.size)⟩
      simp only [Act.put, List.setIfInBounds_toArray, List.set_cons_zero, List.set_cons_succ]
      refine BigFrame.wpQuiet_want (by rfl) (fun K hK => q_pure (v := .bool (!D)) (fun W => ?_) (hK _ ?_))
      · go_simp
      simp only [Act.put, List.setIfInBounds_toArray, List.set_cons_zero, List.set_cons_succ]
      refine BigFrame.wpQuiet_want (by rfl) (fun K hK => q_pure (v := .bool (!D)) (fun W => ?_) (hK _ ?_))
      · go_simp
      simp only [Act.put, List.setIfInBounds_toArray, List.set_cons_zero, List.set_cons_succ]
      refine wpQuiet_nil ?_
      intro w2 hw2
      cases D with
      | true =>
        go_wp2
        go_ret
        exact ⟨rfl, hb1.trans (hw2.mono hb1.size)⟩
      | false =>
        go_wp2
        go_ret
        exact ⟨rfl, hb1.trans (hw2.mono hb1.size)⟩
    · have h1' : (1024 : Int) < (b.size : Int) := by omega
      rw [decide_eq_false h1]
      go_enter Tryd.func37, Tryd.ntmps37
      go_wp2_with fail
      go_quiet (fail)
      go_wp2
      go_ret
      exact ⟨rfl, ((Below.refl _ w).alloc (Nat.le_refl _) _).trans (below_drewN (Below.refl _ _) _)⟩
end Go.Proofs.YtaocbkloafhmeaaDoor
