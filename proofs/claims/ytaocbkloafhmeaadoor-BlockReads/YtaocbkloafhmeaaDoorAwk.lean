/- The laws' awake, called: a block's digest does not hang on whether a body is gone. -/
import Derived.Test.YtaocbkloafhmeaaDoorWou
import Derived.Test.YtaocbkloafhmeaaDoorHdr
import Derived.Test.YtaocbkloafhmeaaDoorFol
import Derived.Test.YtaocbkloafhmeaaDoorBlk
namespace Go.Proofs.YtaocbkloafhmeaaDoor
open Go.RowKit
theorem metaT_upd (R : Nat → Rv) (k : Nat) (b : ByteArray) (g : Bool) (i : Nat) : metaT (updR R k b g i) = metaT (R i) := by
  unfold updR
  split
  · next e => rw [e]; rfl
  · rfl
theorem leafs_upd (R : Nat → Rv) (k : Nat) (b : ByteArray) (g : Bool) : leafs (updR R k b g) = leafs R := by
  funext i
  unfold leafs
  rw [metaT_upd]
theorem hashT_upd (x : Bk) (k : Nat) (b : ByteArray) (g : Bool) : hashT { x with R := updR x.R k b g } = hashT x := by
  unfold hashT headerT rootT headT
  simp only [leafs_upd]
def rev0 : Rv := ⟨3, ⟨#[116]⟩, ⟨#[]⟩, 1, 0, ⟨#[]⟩, ⟨#[120]⟩, false⟩
def rev1 : Rv := ⟨3, ⟨#[116]⟩, ⟨#[]⟩, 1, 0, sumS (leafT ⟨#[120]⟩), ⟨#[120]⟩, false⟩
theorem rev0_fit : rev0.fit := ⟨by decide, by decide, by decide, by decide, by decide, by decide, by decide, by decide⟩
theorem rev1_fit : rev1.fit := ⟨by decide, by decide, by decide, by decide, by decide, by decide, by show (sumS (leafT ⟨#[120]⟩)).size ≤ _; rw [sumS_size]; omega, by decide⟩
theorem seal0 : sealT rev0 = rev1 := rfl
def blk1 : Bk := ⟨0, ⟨#[]⟩, 0, 1, fun _ => rev1⟩
theorem blk1_fit : blk1.fit := ⟨by decide, by decide, by decide⟩
theorem check1 : checkR rev1 = 0 := by
  have h1 : nameB rev1.t = true := by decide +kernel
  have h2 : fitsB rev1 = true := by rfl
  have h3 : restB rev1 = true := by
    show hereB rev1 = true
    unfold hereB
    rw [decide_eq_true (by decide), decide_eq_true (show rev1.h = sumS (leafT rev1.b) from rfl)]
    rfl
  unfold checkR revB
  rw [h1, h2, h3]
  rfl
theorem fol1 : folR blk1 0 ⟨#[]⟩ = 0 := by
  have h : fe blk1.R blk1.n = 0 := by
    show (if (0 : Int) = 0 then checkR rev1 else 0) = 0
    rw [if_pos rfl, check1]
  unfold folR
  rw [if_neg (by decide), h, if_neg (by simp), if_neg]
  intro hh
  rcases hh with h1 | h1
  · exact h1 rfl
  · exact h1 rfl
theorem out1 : outB 1 (fun _ => rev1) 0 = true := by rfl
set_option maxRecDepth 100000 in
set_option maxHeartbeats 4000000 in
theorem awake_any (w : World) (hw : 3 ≤ w.heap.size) (hG : GL w) (hD : GD w) : Calls Tryd.prog 10 #[] w fun e w' => e = .returned (.bool true) ∧ Below w.heap.size w w' := by
  have k1 := fun W hG => sealed_any rev0 rev0_fit W hG
  rw [seal0] at k1
  have k2 := fun W p c hX => without_any blk1 (by decide) 0 p c W hX
  have hoX : outX blk1 0 = { blk1 with R := updR blk1.R 0 ⟨#[]⟩ true } := by unfold outX; rw [if_pos]; rfl; exact out1
  have hoE : outE blk1 0 = 0 := by unfold outE; rw [if_pos]; exact out1
  rw [hoX, hoE] at k2
  have k3 := fun W p c hG hX => follows_any blk1 p c 0 ⟨#[]⟩ W hG hX
  rw [fol1] at k3
  have k4 := fun W p c hw hG hD hX => hash_any blk1 blk1_fit (by decide) p c W hw hG hD hX
  have k5 := fun W p c hw hG hD hX => hash_any { blk1 with R := updR blk1.R 0 ⟨#[]⟩ true } ⟨blk1_fit.seq, blk1_fit.tx, blk1_fit.prev⟩ (by decide) p c W hw hG hD hX
  rw [hashT_upd] at k5
  have hHs : (hashT blk1).size = 32 := sumS_size _
  obtain ⟨H, hH⟩ : ∃ H, hashT blk1 = H := ⟨_, rfl⟩
  rw [hH] at k4 k5 hHs
  clear hH hoX hoE
  have v1 : ∀ p c, blk1.val p c = .agg #[.int .u64 0, .string ⟨#[]⟩, .int .u64 0, .slice p 1 c] := fun _ _ => rfl
  have v2 : ∀ p c, ({ blk1 with R := updR blk1.R 0 ⟨#[]⟩ true } : Bk).val p c = .agg #[.int .u64 0, .string ⟨#[]⟩, .int .u64 0, .slice p 1 c] := fun _ _ => rfl
  simp only [v1, v2] at k2 k3 k4 k5
  clear v1 v2
  obtain ⟨hx, hhx⟩ : ∃ hx, sumS (leafT ⟨#[120]⟩) = hx := ⟨_, rfl⟩
  have r0 : rev0.val = .agg #[.int .i64 3, .string ⟨#[116]⟩, .string ⟨#[]⟩, .int .u64 1, .int .u64 0, .string ⟨#[]⟩, .string ⟨#[120]⟩, .bool false] := rfl
  have r1 : rev1.val = .agg #[.int .i64 3, .string ⟨#[116]⟩, .string ⟨#[]⟩, .int .u64 1, .int .u64 0, .string hx, .string ⟨#[120]⟩, .bool false] := by rw [← hhx]; rfl
  have rc : rev1.cs = #[.int .i64 3, .string ⟨#[116]⟩, .string ⟨#[]⟩, .int .u64 1, .int .u64 0, .string hx, .string ⟨#[120]⟩, .bool false] := by rw [← hhx]; rfl
  rw [r0, r1] at k1
  clear r0 r1 hhx
  have n1 : blk1.n = 1 := rfl
  have R1 : blk1.R = fun _ => rev1 := rfl
  rw [n1, R1] at k2 k3 k4
  simp only [n1, R1] at k5
  clear n1 R1
  go_enter Tryd.func10, Tryd.ntmps10
  go_wp2_with fail
  refine (k1 _ hG).mono ?_
  rintro e w1 ⟨rfl, hb1⟩
  go_wp2_with fail
  have hs1 := hb1.size
  have hrow : ∀ o, ((w1.alloc (.cells #[.int .i64 3, .string ⟨#[116]⟩, .string ⟨#[]⟩, .int .u64 1, .int .u64 0, .string hx, .string ⟨#[120]⟩, .bool false] 24)).alloc o).heap[w1.heap.size]? = some (.cells rev1.cs 24 (0, 0)) := fun o => by
    rw [rc]
    exact (Below.heap_alloc _ _ _ (by simp)).trans (heap_alloc_new _ _)
  have hX1 : ∀ o, Revs ((w1.alloc (.cells #[.int .i64 3, .string ⟨#[116]⟩, .string ⟨#[]⟩, .int .u64 1, .int .u64 0, .string hx, .string ⟨#[120]⟩, .bool false] 24)).alloc o) (some ⟨w1.heap.size, 0, none⟩) 1 1 (fun _ => rev1) := fun o =>
    ⟨⟨Nat.le_refl _, by unfold maxLen; omega⟩, fun _ _ => rev1_fit, fun _ => ⟨w1.heap.size, 0, rfl, by simp; omega, fun i hi => by obtain rfl : i = 0 := (by omega); exact At8.of_row (hrow o)⟩⟩
  have b1 : ∀ o o', Below w.heap.size w ((w1.alloc o).alloc o') := fun o o' => (hb1.alloc hs1 _).alloc (by simp; omega) _
  refine (k2 _ _ _ (hX1 _)).mono ?_
  rintro e w2 ⟨q, d, rfl, hXq, hb2⟩
  have hs2 := hb2.size
  simp only [World.size_alloc] at hs2
  obtain ⟨g, o, rfl, hgl, hat⟩ := hXq.at' (by decide)
  have hx2 : w2.heap[w1.heap.size + 1]? = some (.cells #[.int .u64 0, .string ⟨#[]⟩, .int .u64 0, .slice (some ⟨w1.heap.size, 0, none⟩) 1 1] 38 (0, 0)) := (hb2.block _ (by simp)).trans (two_new _ _ _)
  have hg7 := (hat 0 (by decide)).c7
  simp only [Nat.zero_mul, Nat.add_zero] at hg7
  have hg7' : w2.cell? ⟨g, o + 7, none⟩ = some (.bool true) := hg7
  have hXp := (hX1 _).later hb2
  have hb02 := (b1 _ _).trans (hb2.mono (by simp; omega))
  go_wp2_with fail
  obtain ⟨w5, hw5⟩ : ∃ w5, w2.alloc (.cells #[.int .u64 0, .string ⟨#[]⟩, .int .u64 0, .slice (some ⟨g, o, none⟩) 1 d] 38) = w5 := ⟨_, rfl⟩
  have b25 : Below w2.heap.size w2 w5 := by rw [← hw5]; exact (Below.refl _ _).alloc (Nat.le_refl _) _
  have hy5 : w5.heap[w2.heap.size]? = some (.cells #[.int .u64 0, .string ⟨#[]⟩, .int .u64 0, .slice (some ⟨g, o, none⟩) 1 d] 38 (0, 0)) := by rw [← hw5]; exact heap_alloc_new _ _
  have hx5 := cell_later4 b25 hx2
  have hgo := (b25.cell (p := ⟨g, o + 7, none⟩) hgl).trans hg7'
  have hXq5 := hXq.later b25
  have hXp5 := hXp.later b25
  have hb5 := hb02.trans (b25.mono hb02.size)
  have hs5 := b25.size
  replace hgl : g < w5.heap.size := by omega
  rw [hw5]
  clear hw5 hx2 hg7 hg7' hXq hXp hat hX1 hrow k1 k2
  obtain ⟨b0, hb0⟩ : ∃ b0, w1.heap.size = b0 := ⟨_, rfl⟩
  obtain ⟨b2, hbb2⟩ : ∃ b2, w2.heap.size = b2 := ⟨_, rfl⟩
  obtain ⟨b1', hbb1⟩ : ∃ b1', w1.heap.size + 1 = b1' := ⟨_, rfl⟩
  rw [hbb1] at hx5 ⊢
  rw [hb0] at hx5 hXp5
  try rw [hb0]
  rw [hbb2] at hy5 ⊢
  clear hb0 hbb2 hbb1 hb1 hb2 b1 b25 hb02 hs1 hs2 hs5
  have hG5 := hG.later hb5
  have hD5 := hD.later hb5
  have hs5 := hb5.size
  have hfo := fun W (hW : Below w5.heap.size w5 W) => k3 W _ _ (hG5.later hW) (hXp5.later hW)
  have hhx := fun W (hW : Below w5.heap.size w5 W) => k4 W _ _ (by have := hW.size; omega) (hG5.later hW) (hD5.later hW) (hXp5.later hW)
  have hhy := fun W (hW : Below w5.heap.size w5 W) => k5 W _ _ (by have := hW.size; omega) (hG5.later hW) (hD5.later hW) (hXq5.later hW)
  clear k3 k4 k5 hXp5 hXq5
  refine quiet_class (C := fun W => Below w5.heap.size w5 W) (by kernel_rfl) (by kernel_rfl) (below_drewN (Below.refl _ _) 1) ?_
  go_big_quiet_step (fail)
  refine BigFrame.wpQuiet_want (by rfl) (fun K hK => q_pure (v := .bool true) (fun W => ?_) (hK _ ?_))
  · go_simp
  simp only [Act.put, List.setIfInBounds_toArray, List.set_cons_zero, List.set_cons_succ]
  go_big_quiet_step (fail)
  refine BigFrame.wpQuiet_want (by rfl) (fun K hK => q_pure (v := .pointer (some ⟨b2, 3, none⟩)) (fun W => ?_) (hK _ ?_))
  · go_simp
  simp only [Act.put, List.setIfInBounds_toArray, List.set_cons_zero, List.set_cons_succ]
  refine BigFrame.wpQuiet_want (by rfl) (fun K hK => q_at (v := .slice (some ⟨g, o, none⟩) 1 d) (fun W hW => ?_) (hK _ ?_))
  · have hcW : W.cell? ⟨b2, 3, none⟩ = some (.slice (some ⟨g, o, none⟩) 1 d) := cell_of_row W _ 3 _ _ _ ((hW.block _ (lt_of_row hy5)).trans hy5)
    go_simp
  simp only [Act.put, List.setIfInBounds_toArray, List.set_cons_zero, List.set_cons_succ]
  refine BigFrame.wpQuiet_want (by rfl) (fun K hK => q_pure (v := .int .i64 1) (fun W => ?_) (hK _ ?_))
  · go_simp
  simp only [Act.put, List.setIfInBounds_toArray, List.set_cons_zero, List.set_cons_succ]
  refine BigFrame.wpQuiet_want (by rfl) (fun K hK => q_pure (v := .bool true) (fun W => ?_) (hK _ ?_))
  · go_simp
  simp only [Act.put, List.setIfInBounds_toArray, List.set_cons_zero, List.set_cons_succ]
  refine BigFrame.wpQuiet_want (by rfl) (fun K hK => q_pure (v := .bool true) (fun W => ?_) (hK _ ?_))
  · go_simp
  simp only [Act.put, List.setIfInBounds_toArray, List.set_cons_zero, List.set_cons_succ]
  go_big_quiet_step (fail)
  refine BigFrame.wpQuiet_want (by rfl) (fun K hK => q_pure (v := .pointer (some ⟨b2, 3, none⟩)) (fun W => ?_) (hK _ ?_))
  · go_simp
  simp only [Act.put, List.setIfInBounds_toArray, List.set_cons_zero, List.set_cons_succ]
  refine BigFrame.wpQuiet_want (by rfl) (fun K hK => q_at (v := .slice (some ⟨g, o, none⟩) 1 d) (fun W hW => ?_) (hK _ ?_))
  · have hcW : W.cell? ⟨b2, 3, none⟩ = some (.slice (some ⟨g, o, none⟩) 1 d) := cell_of_row W _ 3 _ _ _ ((hW.block _ (lt_of_row hy5)).trans hy5)
    go_simp
  simp only [Act.put, List.setIfInBounds_toArray, List.set_cons_zero, List.set_cons_succ]
  refine BigFrame.wpQuiet_want (by rfl) (fun K hK => q_pure (v := .pointer (some ⟨g, o, none⟩)) (fun W => ?_) (hK _ ?_))
  · go_simp
  simp only [Act.put, List.setIfInBounds_toArray, List.set_cons_zero, List.set_cons_succ]
  refine BigFrame.wpQuiet_want (by rfl) (fun K hK => q_pure (v := .pointer (some ⟨g, o + 7, none⟩)) (fun W => ?_) (hK _ ?_))
  · go_simp
  simp only [Act.put, List.setIfInBounds_toArray, List.set_cons_zero, List.set_cons_succ]
  refine BigFrame.wpQuiet_want (by rfl) (fun K hK => q_at (v := .bool true) (fun W hW => ?_) (hK _ ?_))
  · have hcW : W.cell? ⟨g, o + 7, none⟩ = some (.bool true) := (hW.cell (p := ⟨g, o + 7, none⟩) hgl).trans hgo
    go_simp
  simp only [Act.put, List.setIfInBounds_toArray, List.set_cons_zero, List.set_cons_succ]
  refine BigFrame.wpQuiet_want (by rfl) (fun K hK => q_pure (v := .bool true) (fun W => ?_) (hK _ ?_))
  · go_simp
  simp only [Act.put, List.setIfInBounds_toArray, List.set_cons_zero, List.set_cons_succ]
  go_big_quiet_step (fail)
  refine BigFrame.wpQuiet_want (by rfl) (fun K hK => q_load 38 (.tmp 1) rfl b1' rfl 38 #[.int .u64 0, .string ⟨#[]⟩, .int .u64 0, .slice (some ⟨b0, 0, none⟩) 1 1] (0, 0) _ (fun W hW => (hW.block _ (lt_of_row hx5)).trans hx5) Tryd.underlying38 rfl (by kernel_rfl) (hK _ ?_))
  simp only [Act.put, List.setIfInBounds_toArray, List.set_cons_zero, List.set_cons_succ]
  refine BigFrame.wpQuiet_want (by rfl) (fun K hK => q_call (v := .int .i64 0) (f := 25) (args := #[.agg #[.int .u64 0, .string ⟨#[]⟩, .int .u64 0, .slice (some ⟨b0, 0, none⟩) 1 1], .int .u64 0, .string ⟨#[]⟩]) (fun W => ?_) (fun W hW => ?_) (hK _ ?_))
  · go_simp
  · refine (hfo W hW).mono ?_
    rintro e w' ⟨rfl, hb'⟩
    exact ⟨rfl, hW.trans (hb'.mono hW.size)⟩
  simp only [Act.put, List.setIfInBounds_toArray, List.set_cons_zero, List.set_cons_succ]
  refine BigFrame.wpQuiet_want (by rfl) (fun K hK => q_pure (v := .bool true) (fun W => ?_) (hK _ ?_))
  · go_simp
  simp only [Act.put, List.setIfInBounds_toArray, List.set_cons_zero, List.set_cons_succ]
  refine BigFrame.wpQuiet_want (by rfl) (fun K hK => q_pure (v := .bool true) (fun W => ?_) (hK _ ?_))
  · go_simp
  simp only [Act.put, List.setIfInBounds_toArray, List.set_cons_zero, List.set_cons_succ]
  go_big_quiet_step (fail)
  refine BigFrame.wpQuiet_want (by rfl) (fun K hK => q_load 38 (.tmp 1) rfl b1' rfl 38 #[.int .u64 0, .string ⟨#[]⟩, .int .u64 0, .slice (some ⟨b0, 0, none⟩) 1 1] (0, 0) _ (fun W hW => (hW.block _ (lt_of_row hx5)).trans hx5) Tryd.underlying38 rfl (by kernel_rfl) (hK _ ?_))
  simp only [Act.put, List.setIfInBounds_toArray, List.set_cons_zero, List.set_cons_succ]
  refine BigFrame.wpQuiet_want (by rfl) (fun K hK => q_call (v := .string H) (f := 20) (args := #[.agg #[.int .u64 0, .string ⟨#[]⟩, .int .u64 0, .slice (some ⟨b0, 0, none⟩) 1 1]]) (fun W => ?_) (fun W hW => ?_) (hK _ ?_))
  · go_simp
  · refine (hhx W hW).mono ?_
    rintro e w' ⟨rfl, hb'⟩
    exact ⟨rfl, hW.trans (hb'.mono hW.size)⟩
  simp only [Act.put, List.setIfInBounds_toArray, List.set_cons_zero, List.set_cons_succ]
  refine BigFrame.wpQuiet_want (by rfl) (fun K hK => q_load 38 (.tmp 2) rfl b2 rfl 38 #[.int .u64 0, .string ⟨#[]⟩, .int .u64 0, .slice (some ⟨g, o, none⟩) 1 d] (0, 0) _ (fun W hW => (hW.block _ (lt_of_row hy5)).trans hy5) Tryd.underlying38 rfl (by kernel_rfl) (hK _ ?_))
  simp only [Act.put, List.setIfInBounds_toArray, List.set_cons_zero, List.set_cons_succ]
  refine BigFrame.wpQuiet_want (by rfl) (fun K hK => q_call (v := .string H) (f := 20) (args := #[.agg #[.int .u64 0, .string ⟨#[]⟩, .int .u64 0, .slice (some ⟨g, o, none⟩) 1 d]]) (fun W => ?_) (fun W hW => ?_) (hK _ ?_))
  · go_simp
  · refine (hhy W hW).mono ?_
    rintro e w' ⟨rfl, hb'⟩
    exact ⟨rfl, hW.trans (hb'.mono hW.size)⟩
  simp only [Act.put, List.setIfInBounds_toArray, List.set_cons_zero, List.set_cons_succ]
  refine BigFrame.wpQuiet_want (by rfl) (fun K hK => q_pure (v := .bool true) (fun W => ?_) (hK _ ?_))
  · go_simp
  simp only [Act.put, List.setIfInBounds_toArray, List.set_cons_zero, List.set_cons_succ]
  refine BigFrame.wpQuiet_want (by rfl) (fun K hK => q_pure (v := .bool true) (fun W => ?_) (hK _ ?_))
  · go_simp
  simp only [Act.put, List.setIfInBounds_toArray, List.set_cons_zero, List.set_cons_succ]
  go_big_quiet_step (fail)
  refine BigFrame.wpQuiet_want (by rfl) (fun K hK => q_load 38 (.tmp 1) rfl b1' rfl 38 #[.int .u64 0, .string ⟨#[]⟩, .int .u64 0, .slice (some ⟨b0, 0, none⟩) 1 1] (0, 0) _ (fun W hW => (hW.block _ (lt_of_row hx5)).trans hx5) Tryd.underlying38 rfl (by kernel_rfl) (hK _ ?_))
  simp only [Act.put, List.setIfInBounds_toArray, List.set_cons_zero, List.set_cons_succ]
  refine BigFrame.wpQuiet_want (by rfl) (fun K hK => q_call (v := .string H) (f := 20) (args := #[.agg #[.int .u64 0, .string ⟨#[]⟩, .int .u64 0, .slice (some ⟨b0, 0, none⟩) 1 1]]) (fun W => ?_) (fun W hW => ?_) (hK _ ?_))
  · go_simp
  · refine (hhx W hW).mono ?_
    rintro e w' ⟨rfl, hb'⟩
    exact ⟨rfl, hW.trans (hb'.mono hW.size)⟩
  simp only [Act.put, List.setIfInBounds_toArray, List.set_cons_zero, List.set_cons_succ]
  refine BigFrame.wpQuiet_want (by rfl) (fun K hK => q_pure (v := .int .i64 32) (fun W => ?_) (hK _ ?_))
  · go_simp
  simp only [Act.put, List.setIfInBounds_toArray, List.set_cons_zero, List.set_cons_succ]
  refine BigFrame.wpQuiet_want (by rfl) (fun K hK => q_pure (v := .bool true) (fun W => ?_) (hK _ ?_))
  · go_simp
  simp only [Act.put, List.setIfInBounds_toArray, List.set_cons_zero, List.set_cons_succ]
  refine BigFrame.wpQuiet_want (by rfl) (fun K hK => q_pure (v := .bool true) (fun W => ?_) (hK _ ?_))
  · go_simp
  simp only [Act.put, List.setIfInBounds_toArray, List.set_cons_zero, List.set_cons_succ]
  go_big_quiet_step (fail)
  refine wpQuiet_nil ?_
  intro w6 hw6
  go_wp2
  go_ret
  exact ⟨rfl, hb5.trans (hw6.mono hs5)⟩
end Go.Proofs.YtaocbkloafhmeaaDoor
