/- With, called. What With and Without leave of a block, as plain facts. -/
import Derived.Test.YtaocbkloafhmeaaDoorWou
import Derived.Deep.Cut
import Derived.Test.YtaocbkloafhmeaaDoorAwk
namespace Go.Proofs.YtaocbkloafhmeaaDoor
open Go.RowKit
def inB (n : Nat) (R : Nat → Rv) (k : Int) (bo : ByteArray) : Bool := bodAt n R k && decide (bo.size ≤ 1024) && decide ((R k.toNat).h = sumS (leafT bo))
def inX (x : Bk) (k : Int) (bo : ByteArray) : Bk := if inB x.n x.R k bo then { x with R := updR x.R k.toNat bo false } else x
def inE (x : Bk) (k : Int) (bo : ByteArray) : Int := if inB x.n x.R k bo then 0 else 1
set_option maxRecDepth 100000 in
set_option maxHeartbeats 4000000 in
theorem with_any (x : Bk) (hn : x.n ≤ 66) (k : Int) (bo : ByteArray) (p : Option Addr) (c : Nat) (w : World) (hG : GL w) (hX : Revs w p x.n c x.R) :
    Calls Tryd.prog 30 #[x.val p c, .int .i64 k, .string bo] w fun e w' => ∃ q d, e = .returned (.tuple #[(inX x k bo).val q d, .int .i64 (inE x k bo)]) ∧ Revs w' q x.n d (inX x k bo).R ∧ Below w.heap.size w w' := by
  have hown := fun W hX => own_any x hn p c W hX
  have hbat := fun W q d hX => bat_any x k q d W hX
  have hB : bodAt x.n x.R k = true → 0 ≤ k ∧ k < (x.n : Int) := fun h => by
    unfold bodAt at h
    simp only [Bool.and_eq_true, decide_eq_true_eq] at h
    exact ⟨h.1.1, h.1.2⟩
  have hXv : ∀ q d, (inX x k bo).val q d = .agg #[.int .u64 (x.seq : Int), .string x.prev, .int .u64 (x.tx : Int), .slice q x.n d] := fun q d => by unfold inX; split <;> rfl
  have hXR : (inX x k bo).R = if inB x.n x.R k bo then updR x.R k.toNat bo false else x.R := by unfold inX; split <;> rfl
  have hE : inE x k bo = if inB x.n x.R k bo then 0 else 1 := rfl
  have hO : inB x.n x.R k bo = (bodAt x.n x.R k && decide (bo.size ≤ 1024) && decide ((x.R k.toNat).h = sumS (leafT bo))) := rfl
  simp only [hXv]
  rw [hXR, hE, hO]
  clear hXv hXR hE hO
  obtain ⟨seq, prev, tx, n, R⟩ := x
  simp only at hn hX hown hbat hB ⊢
  have hv : ∀ q d, (Bk.mk seq prev tx n R).val q d = .agg #[.int .u64 (seq : Int), .string prev, .int .u64 (tx : Int), .slice q n d] := fun _ _ => rfl
  simp only [hv] at hown hbat ⊢
  clear hv
  obtain ⟨A, hA⟩ : ∃ A, bodAt n R k = A := ⟨_, rfl⟩
  rw [hA] at hbat hB ⊢
  clear hA
  have hlf := fun W hG (h1 : bo.size ≤ 1024) => leaf_any bo (by omega) W hG
  obtain ⟨y, hy⟩ : ∃ y, sumS (leafT bo) = y := ⟨_, rfl⟩
  rw [hy] at hlf ⊢
  clear hy
  have b0 : ∀ o o', Below w.heap.size w ((w.alloc o).alloc o') := fun o o' => ((Below.refl _ w).alloc (Nat.le_refl _) _).alloc (by simp) _
  obtain ⟨Po, hPo⟩ : ∃ Po : Ending → World → Prop, Po = fun e w' => ∃ q d, e = .returned (.tuple #[.agg #[.int .u64 (seq : Int), .string prev, .int .u64 (tx : Int), .slice q n d], .int .i64 (if (A && decide (bo.size ≤ 1024) && decide ((R k.toNat).h = y)) = true then 0 else 1)]) ∧ Revs w' q n d (if (A && decide (bo.size ≤ 1024) && decide ((R k.toNat).h = y)) = true then updR R k.toNat bo false else R) ∧ Below w.heap.size w w' := ⟨_, rfl⟩
  rw [← hPo]
  have HPo : Hid (Po = fun e w' => ∃ q d, e = .returned (.tuple #[.agg #[.int .u64 (seq : Int), .string prev, .int .u64 (tx : Int), .slice q n d], .int .i64 (if (A && decide (bo.size ≤ 1024) && decide ((R k.toNat).h = y)) = true then 0 else 1)]) ∧ Revs w' q n d (if (A && decide (bo.size ≤ 1024) && decide ((R k.toNat).h = y)) = true then updR R k.toNat bo false else R) ∧ Below w.heap.size w w') := hPo
  clear hPo
  go_enter Tryd.func30, Tryd.ntmps30
  go_wp2_with fail
  refine (hown _ (hX.later (b0 _ _))).mono ?_
  rintro e w2 ⟨q, d, rfl, hM, hb2⟩
  have hsz2 := hb2.size
  simp only [World.size_alloc] at hsz2
  have hrow := (hb2.block w.heap.size (by simp; omega)).trans ((Below.heap_alloc _ _ _ (by simp)).trans (heap_alloc_new w (.cells #[.int .u64 (seq : Int), .string prev, .int .u64 (tx : Int), .slice p n c] 38)))
  have hres := (hb2.block (w.heap.size + 1) (by simp)).trans (two_new w _ _)
  have b2 : Below w.heap.size w w2 := (b0 _ _).trans (hb2.mono (by simp; omega))
  have c0 := cell_of_row w2 _ 0 _ _ _ hrow
  have c1 := cell_of_row w2 _ 1 _ _ _ hrow
  have c2 := cell_of_row w2 _ 2 _ _ _ hrow
  have c3 := cell_of_row w2 _ 3 _ _ _ hrow
  have f0 := frozen_of_row w2 _ 0 _ _ hrow
  have f1 := frozen_of_row w2 _ 1 _ _ hrow
  have f2 := frozen_of_row w2 _ 2 _ _ hrow
  have f3 := frozen_of_row w2 _ 3 _ _ hrow
  have hM2 : Mine w2 q n d (w.heap.size + 2) R := hM.down (by simp)
  go_upto_region 2 with fail
  have hw3 := set4_row hrow (.int .u64 (seq : Int)) (.string prev) (.int .u64 (tx : Int)) (.slice q n d)
  have hs3 := set4_size w2 w.heap.size (.int .u64 (seq : Int)) (.string prev) (.int .u64 (tx : Int)) (.slice q n d)
  have hM3 : Mine (set4 w2 w.heap.size (.int .u64 (seq : Int)) (.string prev) (.int .u64 (tx : Int)) (.slice q n d)) q n d (w.heap.size + 2) R := hM2.kept (by omega) (fun g hg _ => set4_block _ _ _ _ _ _ _ (by omega))
  have hr3 : (set4 w2 w.heap.size (.int .u64 (seq : Int)) (.string prev) (.int .u64 (tx : Int)) (.slice q n d)).heap[w.heap.size + 1]? = _ := (set4_block _ _ _ _ _ _ _ (by omega)).trans hres
  have b3 := set4_below b2 w.heap.size (Nat.le_refl _) (.int .u64 (seq : Int)) (.string prev) (.int .u64 (tx : Int)) (.slice q n d)
  obtain ⟨w3, hw⟩ : ∃ w3, set4 w2 w.heap.size (.int .u64 (seq : Int)) (.string prev) (.int .u64 (tx : Int)) (.slice q n d) = w3 := ⟨_, rfl⟩
  have hw' : (((w2.setCell ⟨w.heap.size, 0, none⟩ (.int .u64 (seq : Int))).setCell ⟨w.heap.size, 1, none⟩ (.string prev)).setCell ⟨w.heap.size, 2, none⟩ (.int .u64 (tx : Int))).setCell ⟨w.heap.size, 3, none⟩ (.slice q n d) = w3 := hw
  rw [hw] at hw3 hs3 hM3 hr3 b3
  rw [hw']
  clear hw hw' c0 c1 c2 c3 f0 f1 f2 f3 hrow hres hM hM2 b2
  have hG3 := hG.later b3
  cases A with
  | false =>
    refine quiet_class (C := fun W => Below w3.heap.size w3 W) (by kernel_rfl) (by kernel_rfl) (below_drewN (Below.refl _ _) 1) ?_
    refine BigFrame.wpQuiet_want (by rfl) (fun K hK => q_load 38 (.tmp 3) rfl w.heap.size rfl 38 #[.int .u64 (seq : Int), .string prev, .int .u64 (tx : Int), .slice q n d] (0, 0) _ (fun W hW => (hW.block _ (by omega)).trans hw3) Tryd.underlying38 rfl (by kernel_rfl) (hK _ ?_))
    simp only [Act.put, List.setIfInBounds_toArray, List.set_cons_zero, List.set_cons_succ]
    go_big_quiet_step (fail)
    refine BigFrame.wpQuiet_want (by rfl) (fun K hK => q_call (v := .bool false) (f := 61) (args := #[.agg #[.int .u64 (seq : Int), .string prev, .int .u64 (tx : Int), .slice q n d], .int .i64 k]) (fun W => ?_) (fun W hW => ?_) (hK _ ?_))
    · go_simp
    · refine (hbat W q d (hM3.revs.later hW)).mono ?_
      rintro e w' ⟨rfl, hb'⟩
      exact ⟨rfl, hW.trans (hb'.mono hW.size)⟩
    simp only [Act.put, List.setIfInBounds_toArray, List.set_cons_zero, List.set_cons_succ]
    refine BigFrame.wpQuiet_want (by rfl) (fun K hK => q_pure (v := .bool true) (fun W => ?_) (hK _ ?_))
    · go_simp
    simp only [Act.put, List.setIfInBounds_toArray, List.set_cons_zero, List.set_cons_succ]
    go_big_quiet_step (fail)
    go_big_quiet_step (fail)
    go_big_quiet_step (fail)
    go_big_quiet_step (fail)
    refine BigFrame.wpQuiet_want (by rfl) (fun K hK => q_pure (v := .bool true) (fun W => ?_) (hK _ ?_))
    · go_simp
    simp only [Act.put, List.setIfInBounds_toArray, List.set_cons_zero, List.set_cons_succ]
    go_big_quiet_step (fail)
    go_big_quiet_step (fail)
    go_big_quiet_step (fail)
    go_big_quiet_step (fail)
    go_big_quiet_step (fail)
    go_big_quiet_step (fail)
    go_big_quiet_step (fail)
    go_big_quiet_step (fail)
    go_big_quiet_step (fail)
    go_big_quiet_step (fail)
    refine BigFrame.wpQuiet_want (by rfl) (fun K hK => q_pure (v := .bool true) (fun W => ?_) (hK _ ?_))
    · go_simp
    simp only [Act.put, List.setIfInBounds_toArray, List.set_cons_zero, List.set_cons_succ]
    refine wpQuiet_nil ?_
    intro w4 hb4
    have hrow := (hb4.block w.heap.size (by omega)).trans hw3
    have hres := (hb4.block (w.heap.size + 1) (by omega)).trans hr3
    have hM4 := hM3.later hb4
    have b4 := b3.trans (hb4.mono (by omega))
    have hsz4 := hb4.size
    have c0 := cell_of_row w4 _ 0 _ _ _ hrow
    have c1 := cell_of_row w4 _ 1 _ _ _ hrow
    have c2 := cell_of_row w4 _ 2 _ _ _ hrow
    have c3 := cell_of_row w4 _ 3 _ _ _ hrow
    have r0 := cell_of_row w4 _ 0 _ _ _ hres
    have r1 := cell_of_row w4 _ 1 _ _ _ hres
    have r2 := cell_of_row w4 _ 2 _ _ _ hres
    have r3 := cell_of_row w4 _ 3 _ _ _ hres
    have s0 := frozen_of_row w4 _ 0 _ _ hres
    have s1 := frozen_of_row w4 _ 1 _ _ hres
    have s2 := frozen_of_row w4 _ 2 _ _ hres
    have s3 := frozen_of_row w4 _ 3 _ _ hres
    go_wp2
    have h := set4_row hres (.int .u64 (seq : Int)) (.string prev) (.int .u64 (tx : Int)) (.slice q n d)
    refine bodyPost_ret (v := .tuple #[.agg #[.int .u64 (seq : Int), .string prev, .int .u64 (tx : Int), .slice q n d], .int .i64 1]) (results_row_tmp Tryd.results30 _ _ (w.heap.size + 1) 38 _ (0, 0) _ rfl h Tryd.underlying38 rfl (by kernel_rfl)) rfl ?_
    rw [HPo.out]
    exact ⟨q, d, rfl, (hM4.kept (w' := set4 w4 (w.heap.size + 1) (.int .u64 (seq : Int)) (.string prev) (.int .u64 (tx : Int)) (.slice q n d)) (by rw [set4_size]; omega) (fun g hg _ => set4_block _ _ _ _ _ _ _ (by omega))).revs, set4_below b4 _ (by omega) _ _ _ _⟩
  | true =>
    obtain ⟨k0, k1⟩ := hB rfl
    obtain ⟨i, rfl⟩ : ∃ i : Nat, k = (i : Int) := ⟨k.toNat, by omega⟩
    have him : i < n := by omega
    have hcap := hM3.revs.cap
    have hfit := hM3.revs.fit
    have hm : maxLen = 9223372036854775807 := rfl
    have HT : Hid (((i : Int)).toNat = i) := show ((i : Int)).toNat = i from rfl
    obtain ⟨g, rfl, hR3, hg⟩ := hM3.row (by omega)
    obtain ⟨cur3, hcur3, hcc3⟩ := hR3.ex
    have hgl3 : g < w3.heap.size := lt_of_row hcur3
    have e5 : w3.cell? ⟨g, i * 8 + 5, none⟩ = some (.string (R i).h) := by rw [cell_of_row w3 g _ _ _ _ hcur3, hcc3 i 5 him (by omega)]; rfl
    by_cases h1 : bo.size ≤ 1024
    · have h1' : ¬ (1024 : Int) < (bo.size : Int) := by omega
      have hbo : bo.size ≤ 1125899906842624 := by omega
      have h1d := decide_eq_true h1
      obtain ⟨D, hD⟩ : ∃ D, decide ((R i).h = y) = D := ⟨_, rfl⟩
      have hcmp : (y.toList == (R i).h.toList) = D := by rw [beq_dec, ← hD]; exact decide_eq_decide.2 eq_comm
      have HD : Hid (decide ((R i).h = y) = D) := hD
      clear hD
      refine quiet_class (C := fun W => Below w3.heap.size w3 W) (by kernel_rfl) (by kernel_rfl) (below_drewN (Below.refl _ _) 1) ?_
      refine BigFrame.wpQuiet_want (by rfl) (fun K hK => q_load 38 (.tmp 3) rfl w.heap.size rfl 38 #[.int .u64 (seq : Int), .string prev, .int .u64 (tx : Int), .slice (some ⟨g, 0, none⟩) n d] (0, 0) _ (fun W hW => (hW.block _ (by omega)).trans hw3) Tryd.underlying38 rfl (by kernel_rfl) (hK _ ?_))
      simp only [Act.put, List.setIfInBounds_toArray, List.set_cons_zero, List.set_cons_succ]
      go_big_quiet_step (fail)
      refine BigFrame.wpQuiet_want (by rfl) (fun K hK => q_call (v := .bool true) (f := 61) (args := #[.agg #[.int .u64 (seq : Int), .string prev, .int .u64 (tx : Int), .slice (some ⟨g, 0, none⟩) n d], .int .i64 (i : Int)]) (fun W => ?_) (fun W hW => ?_) (hK _ ?_))
      · go_simp
      · refine (hbat W (some ⟨g, 0, none⟩) d (hM3.revs.later hW)).mono ?_
        rintro e w' ⟨rfl, hb'⟩
        exact ⟨rfl, hW.trans (hb'.mono hW.size)⟩
      simp only [Act.put, List.setIfInBounds_toArray, List.set_cons_zero, List.set_cons_succ]
      refine BigFrame.wpQuiet_want (by rfl) (fun K hK => q_pure (v := .bool false) (fun W => ?_) (hK _ ?_))
      · go_simp
      simp only [Act.put, List.setIfInBounds_toArray, List.set_cons_zero, List.set_cons_succ]
      go_big_quiet_step (fail)
      go_big_quiet_step (fail)
      refine BigFrame.wpQuiet_want (by rfl) (fun K hK => q_pure (v := .int .i64 (bo.size : Int)) (fun W => ?_) (hK _ ?_))
      · go_simp
      simp only [Act.put, List.setIfInBounds_toArray, List.set_cons_zero, List.set_cons_succ]
      refine BigFrame.wpQuiet_want (by rfl) (fun K hK => q_pure (v := .bool false) (fun W => ?_) (hK _ ?_))
      · go_simp
      simp only [Act.put, List.setIfInBounds_toArray, List.set_cons_zero, List.set_cons_succ]
      refine BigFrame.wpQuiet_want (by rfl) (fun K hK => q_pure (v := .bool false) (fun W => ?_) (hK _ ?_))
      · go_simp
      simp only [Act.put, List.setIfInBounds_toArray, List.set_cons_zero, List.set_cons_succ]
      go_big_quiet_step (fail)
      go_big_quiet_step (fail)
      refine BigFrame.wpQuiet_want (by rfl) (fun K hK => q_call (v := .string y) (f := 15) (args := #[.string bo]) (fun W => ?_) (fun W hW => ?_) (hK _ ?_))
      · go_simp
      · refine (hlf W (hG3.later hW) h1).mono ?_
        rintro e w' ⟨rfl, hb'⟩
        exact ⟨rfl, hW.trans (hb'.mono hW.size)⟩
      simp only [Act.put, List.setIfInBounds_toArray, List.set_cons_zero, List.set_cons_succ]
      refine BigFrame.wpQuiet_want (by rfl) (fun K hK => q_pure (v := .pointer (some ⟨w.heap.size, 3, none⟩)) (fun W => ?_) (hK _ ?_))
      · go_simp
      simp only [Act.put, List.setIfInBounds_toArray, List.set_cons_zero, List.set_cons_succ]
      refine BigFrame.wpQuiet_want (by rfl) (fun K hK => q_at (v := .slice (some ⟨g, 0, none⟩) n d) (fun W hW => ?_) (hK _ ?_))
      · have hcW : W.cell? ⟨w.heap.size, 3, none⟩ = some (.slice (some ⟨g, 0, none⟩) n d) := cell_of_row W _ 3 _ _ _ ((hW.block _ (by omega)).trans hw3)
        go_simp
      simp only [Act.put, List.setIfInBounds_toArray, List.set_cons_zero, List.set_cons_succ]
      go_big_quiet_step (fail)
      refine BigFrame.wpQuiet_want (by rfl) (fun K hK => q_pure (v := .pointer (some ⟨g, i * 8, none⟩)) (fun W => ?_) (hK _ ?_))
      · go_simp
      simp only [Act.put, List.setIfInBounds_toArray, List.set_cons_zero, List.set_cons_succ]
      refine BigFrame.wpQuiet_want (by rfl) (fun K hK => q_pure (v := .pointer (some ⟨g, i * 8 + 5, none⟩)) (fun W => ?_) (hK _ ?_))
      · go_simp
      simp only [Act.put, List.setIfInBounds_toArray, List.set_cons_zero, List.set_cons_succ]
      refine BigFrame.wpQuiet_want (by rfl) (fun K hK => q_at (v := .string (R i).h) (fun W hW => ?_) (hK _ ?_))
      · have hcW : W.cell? ⟨g, i * 8 + 5, none⟩ = some (.string (R i).h) := (hW.cell (p := ⟨g, i * 8 + 5, none⟩) hgl3).trans e5
        go_simp
      simp only [Act.put, List.setIfInBounds_toArray, List.set_cons_zero, List.set_cons_succ]
      refine BigFrame.wpQuiet_want (by rfl) (fun K hK => q_pure (v := .bool (!D)) (fun W => ?_) (hK _ ?_))
      · go_simp
      simp only [Act.put, List.setIfInBounds_toArray, List.set_cons_zero, List.set_cons_succ]
      refine BigFrame.wpQuiet_want (by rfl) (fun K hK => q_pure (v := .bool (!D)) (fun W => ?_) (hK _ ?_))
      · go_simp
      simp only [Act.put, List.setIfInBounds_toArray, List.set_cons_zero, List.set_cons_succ]
      refine wpQuiet_nil ?_
      intro w4 hb4
      have hrow := (hb4.block w.heap.size (by omega)).trans hw3
      have hres := (hb4.block (w.heap.size + 1) (by omega)).trans hr3
      have hM4 := hM3.later hb4
      have b4 := b3.trans (hb4.mono (by omega))
      have hsz4 := hb4.size
      have c0 := cell_of_row w4 _ 0 _ _ _ hrow
      have c1 := cell_of_row w4 _ 1 _ _ _ hrow
      have c2 := cell_of_row w4 _ 2 _ _ _ hrow
      have c3 := cell_of_row w4 _ 3 _ _ _ hrow
      have r0 := cell_of_row w4 _ 0 _ _ _ hres
      have r1 := cell_of_row w4 _ 1 _ _ _ hres
      have r2 := cell_of_row w4 _ 2 _ _ _ hres
      have r3 := cell_of_row w4 _ 3 _ _ _ hres
      have s0 := frozen_of_row w4 _ 0 _ _ hres
      have s1 := frozen_of_row w4 _ 1 _ _ hres
      have s2 := frozen_of_row w4 _ 2 _ _ hres
      have s3 := frozen_of_row w4 _ 3 _ _ hres
      obtain ⟨cur, hcur, hcc⟩ := (hR3.kept (hb4.block g hgl3)).ex
      have hR := hR3.kept (w' := w4) (hb4.block g hgl3)
      have hgl := lt_of_row hcur
      have e6 : w4.cell? ⟨g, i * 8 + 6, none⟩ = some (.string (R i).b) := by rw [cell_of_row w4 g _ _ _ _ hcur, hcc i 6 him (by omega)]; rfl
      have e7 : w4.cell? ⟨g, i * 8 + 7, none⟩ = some (.bool (R i).g) := by rw [cell_of_row w4 g _ _ _ _ hcur, hcc i 7 him (by omega)]; rfl
      have f6 := frozen_of_row w4 _ (i * 8 + 6) _ _ hcur
      have f7 := frozen_of_row w4 _ (i * 8 + 7) _ _ hcur
      have hup := hR.upd him bo false
      cases D with
      | false =>
        go_wp2
        have h := set4_row hres (.int .u64 (seq : Int)) (.string prev) (.int .u64 (tx : Int)) (.slice (some ⟨g, 0, none⟩) n d)
        refine bodyPost_ret (v := .tuple #[.agg #[.int .u64 (seq : Int), .string prev, .int .u64 (tx : Int), .slice (some ⟨g, 0, none⟩) n d], .int .i64 1]) (results_row_tmp Tryd.results30 _ _ (w.heap.size + 1) 38 _ (0, 0) _ rfl h Tryd.underlying38 rfl (by kernel_rfl)) rfl ?_
        rw [HPo.out, HT.out, HD.out, h1d]
        exact ⟨(some ⟨g, 0, none⟩), d, rfl, (hM4.kept (w' := set4 w4 (w.heap.size + 1) (.int .u64 (seq : Int)) (.string prev) (.int .u64 (tx : Int)) (.slice (some ⟨g, 0, none⟩) n d)) (by rw [set4_size]; omega) (fun g hg _ => set4_block _ _ _ _ _ _ _ (by omega))).revs, set4_below b4 _ (by omega) _ _ _ _⟩
      | true =>
        have fin : ∀ W Y, set4 W (w.heap.size + 1) (.int .u64 (seq : Int)) (.string prev) (.int .u64 (tx : Int)) (.slice (some ⟨g, 0, none⟩) n d) = Y → Rowd W g n 24 (updR R i bo false) → Below w.heap.size w W → W.heap[w.heap.size + 1]? = w4.heap[w.heap.size + 1]? → ∀ a : Act, a.defers = [] → a.tmps.getD 6 undef = .pointer (some ⟨w.heap.size + 1, 0, none⟩) → a.tmps.getD 7 undef = .int .i64 0 → bodyPost Tryd.prog Tryd.f30 Po Exit.ret a Y.drew := by
          intro W Y hY h1 h2 h4 a h5 h6 h7
          have h := set4_row (h4.trans hres) (.int .u64 (seq : Int)) (.string prev) (.int .u64 (tx : Int)) (.slice (some ⟨g, 0, none⟩) n d)
          have hk := set4_block W (w.heap.size + 1) (.int .u64 (seq : Int)) (.string prev) (.int .u64 (tx : Int)) (.slice (some ⟨g, 0, none⟩) n d) g (by omega)
          have hbY := set4_below h2 (w.heap.size + 1) (by omega) (.int .u64 (seq : Int)) (.string prev) (.int .u64 (tx : Int)) (.slice (some ⟨g, 0, none⟩) n d)
          rw [hY] at h hk hbY
          clear hY h4
          have hr := results_row_tmp (P := Tryd.prog) Tryd.results30 a.tmps Y.drew (w.heap.size + 1) 38 _ (0, 0) _ h6 h Tryd.underlying38 rfl (by kernel_rfl)
          rw [h7] at hr
          refine bodyPost_ret hr h5 ?_
          rw [HPo.out, HT.out, HD.out, h1d]
          exact ⟨some ⟨g, 0, none⟩, d, rfl, (h1.kept (w' := Y.drew) hk).revs hcap (updR_fit hfit him hbo false), hbY.drew⟩
        go_wp2_with fail
        go_region
        all_goals
          go_wp2
          refine fin ((w4.setCell ⟨g, i * 8 + 6, none⟩ (.string bo)).setCell ⟨g, i * 8 + 7, none⟩ (.bool false)) _ (by unfold set4; rfl) hup.1 ((b4.setCell (p := ⟨g, i * 8 + 6, none⟩) (by simp; omega) _).setCell (p := ⟨g, i * 8 + 7, none⟩) (by simp; omega) _) ?_ _ rfl rfl rfl
          rw [Below.heap_setCell _ _ _ _ (by simp; omega), Below.heap_setCell _ _ _ _ (by simp; omega)]
    · have h1' : (1024 : Int) < (bo.size : Int) := by omega
      have h1d := decide_eq_false h1
      refine quiet_class (C := fun W => Below w3.heap.size w3 W) (by kernel_rfl) (by kernel_rfl) (below_drewN (Below.refl _ _) 1) ?_
      refine BigFrame.wpQuiet_want (by rfl) (fun K hK => q_load 38 (.tmp 3) rfl w.heap.size rfl 38 #[.int .u64 (seq : Int), .string prev, .int .u64 (tx : Int), .slice (some ⟨g, 0, none⟩) n d] (0, 0) _ (fun W hW => (hW.block _ (by omega)).trans hw3) Tryd.underlying38 rfl (by kernel_rfl) (hK _ ?_))
      simp only [Act.put, List.setIfInBounds_toArray, List.set_cons_zero, List.set_cons_succ]
      go_big_quiet_step (fail)
      refine BigFrame.wpQuiet_want (by rfl) (fun K hK => q_call (v := .bool true) (f := 61) (args := #[.agg #[.int .u64 (seq : Int), .string prev, .int .u64 (tx : Int), .slice (some ⟨g, 0, none⟩) n d], .int .i64 (i : Int)]) (fun W => ?_) (fun W hW => ?_) (hK _ ?_))
      · go_simp
      · refine (hbat W (some ⟨g, 0, none⟩) d (hM3.revs.later hW)).mono ?_
        rintro e w' ⟨rfl, hb'⟩
        exact ⟨rfl, hW.trans (hb'.mono hW.size)⟩
      simp only [Act.put, List.setIfInBounds_toArray, List.set_cons_zero, List.set_cons_succ]
      refine BigFrame.wpQuiet_want (by rfl) (fun K hK => q_pure (v := .bool false) (fun W => ?_) (hK _ ?_))
      · go_simp
      simp only [Act.put, List.setIfInBounds_toArray, List.set_cons_zero, List.set_cons_succ]
      go_big_quiet_step (fail)
      go_big_quiet_step (fail)
      refine BigFrame.wpQuiet_want (by rfl) (fun K hK => q_pure (v := .int .i64 (bo.size : Int)) (fun W => ?_) (hK _ ?_))
      · go_simp
      simp only [Act.put, List.setIfInBounds_toArray, List.set_cons_zero, List.set_cons_succ]
      refine BigFrame.wpQuiet_want (by rfl) (fun K hK => q_pure (v := .bool true) (fun W => ?_) (hK _ ?_))
      · go_simp
      simp only [Act.put, List.setIfInBounds_toArray, List.set_cons_zero, List.set_cons_succ]
      refine BigFrame.wpQuiet_want (by rfl) (fun K hK => q_pure (v := .bool true) (fun W => ?_) (hK _ ?_))
      · go_simp
      simp only [Act.put, List.setIfInBounds_toArray, List.set_cons_zero, List.set_cons_succ]
      go_big_quiet_step (fail)
      go_big_quiet_step (fail)
      go_big_quiet_step (fail)
      go_big_quiet_step (fail)
      go_big_quiet_step (fail)
      go_big_quiet_step (fail)
      go_big_quiet_step (fail)
      go_big_quiet_step (fail)
      go_big_quiet_step (fail)
      go_big_quiet_step (fail)
      refine BigFrame.wpQuiet_want (by rfl) (fun K hK => q_pure (v := .bool true) (fun W => ?_) (hK _ ?_))
      · go_simp
      simp only [Act.put, List.setIfInBounds_toArray, List.set_cons_zero, List.set_cons_succ]
      refine wpQuiet_nil ?_
      intro w4 hb4
      have hrow := (hb4.block w.heap.size (by omega)).trans hw3
      have hres := (hb4.block (w.heap.size + 1) (by omega)).trans hr3
      have hM4 := hM3.later hb4
      have b4 := b3.trans (hb4.mono (by omega))
      have hsz4 := hb4.size
      have c0 := cell_of_row w4 _ 0 _ _ _ hrow
      have c1 := cell_of_row w4 _ 1 _ _ _ hrow
      have c2 := cell_of_row w4 _ 2 _ _ _ hrow
      have c3 := cell_of_row w4 _ 3 _ _ _ hrow
      have r0 := cell_of_row w4 _ 0 _ _ _ hres
      have r1 := cell_of_row w4 _ 1 _ _ _ hres
      have r2 := cell_of_row w4 _ 2 _ _ _ hres
      have r3 := cell_of_row w4 _ 3 _ _ _ hres
      have s0 := frozen_of_row w4 _ 0 _ _ hres
      have s1 := frozen_of_row w4 _ 1 _ _ hres
      have s2 := frozen_of_row w4 _ 2 _ _ hres
      have s3 := frozen_of_row w4 _ 3 _ _ hres
      go_wp2
      have h := set4_row hres (.int .u64 (seq : Int)) (.string prev) (.int .u64 (tx : Int)) (.slice (some ⟨g, 0, none⟩) n d)
      refine bodyPost_ret (v := .tuple #[.agg #[.int .u64 (seq : Int), .string prev, .int .u64 (tx : Int), .slice (some ⟨g, 0, none⟩) n d], .int .i64 1]) (results_row_tmp Tryd.results30 _ _ (w.heap.size + 1) 38 _ (0, 0) _ rfl h Tryd.underlying38 rfl (by kernel_rfl)) rfl ?_
      rw [HPo.out, HT.out, h1d]
      exact ⟨(some ⟨g, 0, none⟩), d, rfl, (hM4.kept (w' := set4 w4 (w.heap.size + 1) (.int .u64 (seq : Int)) (.string prev) (.int .u64 (tx : Int)) (.slice (some ⟨g, 0, none⟩) n d)) (by rw [set4_size]; omega) (fun g hg _ => set4_block _ _ _ _ _ _ _ (by omega))).revs, set4_below b4 _ (by omega) _ _ _ _⟩
end Go.Proofs.YtaocbkloafhmeaaDoor
namespace Go.Proofs.YtaocbkloafhmeaaDoor
open Go.RowKit
theorem in_other (x : Bk) (k : Int) (bo : ByteArray) : ∀ i : Nat, (i : Int) ≠ k → (inX x k bo).R i = x.R i := fun i hi => by
  unfold inX
  split
  · next h =>
    have h2 : 0 ≤ k := by
      unfold inB bodAt at h
      simp only [Bool.and_eq_true, decide_eq_true_eq] at h
      exact h.1.1.1.1
    show updR x.R k.toNat bo false i = _
    unfold updR
    rw [if_neg (by omega)]
  · rfl
theorem out_other (x : Bk) (k : Int) : ∀ i : Nat, (i : Int) ≠ k → (outX x k).R i = x.R i := fun i hi => by
  unfold outX
  split
  · next h =>
    have h2 : 0 ≤ k := by
      unfold outB bodAt at h
      simp only [Bool.and_eq_true, decide_eq_true_eq] at h
      exact h.1.1.1
    show updR x.R k.toNat ⟨#[]⟩ true i = _
    unfold updR
    rw [if_neg (by omega)]
  · rfl
theorem in_at (x : Bk) (k : Int) (bo : ByteArray) (h : inB x.n x.R k bo = true) : ∃ i0 : Nat, k = (i0 : Int) ∧ i0 < x.n ∧ ((inX x k bo).R i0).b = bo ∧ ((inX x k bo).R i0).g = false := by
  have h2 := h
  unfold inB bodAt at h2
  simp only [Bool.and_eq_true, decide_eq_true_eq] at h2
  obtain ⟨⟨⟨⟨h3, h4⟩, _⟩, _⟩, _⟩ := h2
  refine ⟨k.toNat, by omega, by omega, ?_⟩
  unfold inX
  rw [if_pos h]
  show (updR x.R k.toNat bo false k.toNat).b = bo ∧ (updR x.R k.toNat bo false k.toNat).g = false
  unfold updR
  rw [if_pos rfl]
  exact ⟨rfl, rfl⟩
theorem out_at (x : Bk) (k : Int) (h : outB x.n x.R k = true) : ∃ i0 : Nat, k = (i0 : Int) ∧ i0 < x.n ∧ ((outX x k).R i0).b = ⟨#[]⟩ ∧ ((outX x k).R i0).g = true := by
  have h2 := h
  unfold outB bodAt at h2
  simp only [Bool.and_eq_true, decide_eq_true_eq] at h2
  obtain ⟨⟨⟨h3, h4⟩, _⟩, _⟩ := h2
  refine ⟨k.toNat, by omega, by omega, ?_⟩
  unfold outX
  rw [if_pos h]
  show (updR x.R k.toNat ⟨#[]⟩ true k.toNat).b = ⟨#[]⟩ ∧ (updR x.R k.toNat ⟨#[]⟩ true k.toNat).g = true
  unfold updR
  rw [if_pos rfl]
  exact ⟨rfl, rfl⟩
theorem in_n (x : Bk) (k : Int) (bo : ByteArray) : (inX x k bo).n = x.n := by unfold inX; split <;> rfl
theorem out_n (x : Bk) (k : Int) : (outX x k).n = x.n := by unfold outX; split <;> rfl
theorem in_fit (x : Bk) (h : x.fit) (k : Int) (bo : ByteArray) : (inX x k bo).fit := by
  unfold inX
  split
  · exact ⟨h.seq, h.tx, h.prev⟩
  · exact h
theorem out_fit (x : Bk) (h : x.fit) (k : Int) : (outX x k).fit := by
  unfold outX
  split
  · exact ⟨h.seq, h.tx, h.prev⟩
  · exact h
theorem hash_in (x : Bk) (k : Int) (bo : ByteArray) : hashT (inX x k bo) = hashT x := by
  unfold inX
  split
  · exact hashT_upd x _ _ _
  · rfl
theorem hash_out (x : Bk) (k : Int) : hashT (outX x k) = hashT x := by
  unfold outX
  split
  · exact hashT_upd x _ _ _
  · rfl
theorem in_val (x : Bk) (k : Int) (bo : ByteArray) (q : Option Addr) (d : Nat) : (inX x k bo).val q d = .agg #[.int .u64 (x.seq : Int), .string x.prev, .int .u64 (x.tx : Int), .slice q x.n d] := by unfold inX; split <;> rfl
theorem out_val (x : Bk) (k : Int) (q : Option Addr) (d : Nat) : (outX x k).val q d = .agg #[.int .u64 (x.seq : Int), .string x.prev, .int .u64 (x.tx : Int), .slice q x.n d] := by unfold outX; split <;> rfl
end Go.Proofs.YtaocbkloafhmeaaDoor
