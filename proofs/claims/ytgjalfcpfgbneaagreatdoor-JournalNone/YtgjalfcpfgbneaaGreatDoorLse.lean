/- What a loss of power does to a file of 150 bytes of which nothing is sure, where the third sector alone is kept. -/
import Derived.Test.YtgjalfcpfgbneaaGreatDoorLoo
namespace Go.Proofs.YtgjalfcpfgbneaaGreatDoor
open Go.RowKit Go.Shelf
theorem zerosC_size (cur : Array Value) (o n : Nat) (h : o + n ≤ cur.size) : (zerosC cur o n).size = cur.size := by
  simp [zerosC]
  omega
theorem look_snone (i : Int) (hi : I64 i) (w : World) : (Instr.lookup 95 (.map none) (.int .i64 i) false).run Tryz.prog w = .ok (.agg #[.string ⟨#[]⟩]) w :=
  Maps.look_nil false keyed3 Tryz.underlying95 (by kernel_rfl) (key3 hi)
theorem fld110 (s : ByteArray) (w : World) : (Instr.field 135 (.agg #[.string s]) 0).run Tryz.prog w = .ok (.string s) w := by kernel_rfl
set_option maxRecDepth 100000 in
set_option maxHeartbeats 4000000 in
theorem lose_aw {w : World} {f g l cap : Nat} {cur : Array Value} (hF : Fl w f (.slice (some ⟨g, 0, none⟩) 150 cap) 0 (.map none)) (hg : w.heap[g]? = some (.cells cur 5 (0, 0))) (hcs : cur.size = cap) (hcap : 150 ≤ cap ∧ cap ≤ maxLen) (hl : Ls w l 4 0 0) (hfg : f ≠ g) (hfl : f ≠ l) (hgl : g ≠ l) :
    Calls Tryz.prog 37 #[.pointer (some ⟨f, 0, none⟩), .pointer (some ⟨l, 0, none⟩)] w fun e w' => e = .returned (.tuple #[]) ∧ Fl w' f (.slice (some ⟨g, 0, none⟩) 150 cap) 150 (.map none) ∧ w'.heap[g]? = some (.cells (zerosC (zerosC cur 0 64) 64 64) 5 (0, 0)) ∧ Chg (fun k => k = f ∨ k = g ∨ k = l) w w' := by
  obtain ⟨c0, c1, c2⟩ := hF.cells
  have kl := loose_none (w := w) (by omega) 3 (by decide) hF
  have ltf := lt_of_row hF
  have ltg := lt_of_row hg
  have ltl := lt_of_row hl
  go_enter Tryz.func37, Tryz.ntmps37
  go_wp2_with fail
  refine kl.mono ?_
  rintro e w1 ⟨v, rfl, hown, hb1⟩
  obtain ⟨q, c, rfl⟩ : ∃ q c, v = .slice (some ⟨q, 0, none⟩) 3 c := ownsRow_succ hown
  rcases hown.2 with ⟨h, _⟩ | ⟨q', cp, cq, eq, hq0, hq, hq1, hq2, hq3, hq4⟩
  · cases h
  injection eq with eq1 _ eq3
  injection eq1 with eq1
  injection eq1 with eq1
  subst eq1 eq3
  have cell_q : ∀ i, i < 3 → w1.cell? ⟨q, i, none⟩ = some (.int .i64 (i : Int)) := fun i hi => by
    rw [cell_of_row w1 q i cq 3 _ hq, ← Array.getElem?_toList]
    have h7 : (cq.toList.take (3 * 1))[i]? = (upto 3)[i]? := by rw [hq4]
    rw [List.getElem?_take_of_lt (by omega)] at h7
    rw [h7]
    obtain rfl | rfl | rfl : i = 0 ∨ i = 1 ∨ i = 2 := by omega
    all_goals rfl
  have ltq := lt_of_row hq
  have hF1 : Fl w1 f (.slice (some ⟨g, 0, none⟩) 150 cap) 0 (.map none) := (hb1.block _ ltf).trans hF
  have hg1 := (hb1.block _ ltg).trans hg
  have hl1 : Ls w1 l 4 0 0 := (hb1.block _ ltl).trans hl
  clear hown hq4 kl c0 c1 c2
  go_wp2
  go_loopw [4, 17] (fun v4 v17 wr => ∃ i : Nat, i ≤ 3 ∧ v17 = .int .i64 (i : Int) ∧ v4 = .int .i64 (if i = 3 then 150 else 0) ∧ Fl wr f (.slice (some ⟨g, 0, none⟩) 150 cap) 0 (.map none) ∧ wr.heap[g]? = some (.cells (if i = 0 then cur else if i = 1 then zerosC cur 0 64 else zerosC (zerosC cur 0 64) 64 64) 5 (0, 0)) ∧ Ls wr l 4 0 (i : Int) ∧ Chg (fun k => k = g ∨ k = l) w1 wr) (fun _ v17 _ => 3 - (intOf v17).toNat)
  case atStart => exact ⟨0, by omega, rfl, rfl, hF1, hg1, hl1, Chg.refl _ _⟩
  case round =>
    obtain ⟨i, hi3, rfl, rfl, hF, hgr, hlr, hC⟩ := hrel
    have hqS : ¬ (q = g ∨ q = l) := by omega
    obtain rfl | rfl | rfl | rfl : i = 0 ∨ i = 1 ∨ i = 2 ∨ i = 3 := by omega
    · have e0 := (World.cell?_of_block (a := ⟨q, 0, none⟩) (hC.block q ltq hqS)).trans (cell_q 0 (by omega))
      obtain ⟨d0, d1, d2⟩ := hF.cells
      have hgr : wr.heap[g]? = some (.cells cur 5 (0, 0)) := hgr
      have szc : cur.size = cap := by exact hcs
      have hm9 : maxLen = 9223372036854775807 := rfl
      go_wp2_with fail
      go_quiet (fail)
      simp only [show (min (64 : Int) 150) = 64 from by decide, show ((64 : Int).toNat) = 64 from rfl]
      have hlq : Ls (wr.drewN nq) l 4 0 0 := hlr
      have hFq : Fl (wr.drewN nq) f (.slice (some ⟨g, 0, none⟩) 150 cap) 0 (.map none) := hF
      have hgq : (wr.drewN nq).heap[g]? = some (.cells cur 5 (0, 0)) := hgr
      have hCq : Chg (fun k => k = g ∨ k = l) w1 (wr.drewN nq) := hC.drewN nq
      obtain ⟨wq, hwq⟩ : ∃ wq, wr.drewN nq = wq := ⟨_, rfl⟩
      rw [hwq] at hlq hFq hgq hCq ⊢
      have kk := keeps_no 64 (by omega) (by omega) (by decide) wq hlq
      clear hwq d0 d1 d2 e0
      go_wp2_with fail
      refine kk.mono ?_
      rintro e w6 ⟨rfl, hw6⟩
      have l6 : Ls w6 l 4 0 1 := by
        rw [hw6]
        exact row_setCell (k := 1) (row_setCell (k := 2) hlq _) _
      have n6 : ∀ k, k ≠ l → w6.heap[k]? = wq.heap[k]? := fun k hk => by
        rw [hw6]
        rw [Below.heap_setCell _ _ _ _ (by show k ≠ l; exact hk), Below.heap_setCell _ _ _ _ (by show k ≠ l; exact hk)]
      have t6 : Chg (fun k => k = g ∨ k = l) wq w6 := by
        rw [hw6]
        exact ⟨rfl, rfl, rfl, by simp, fun k hk hn => (by rw [← hw6]; exact n6 k (fun e => hn (Or.inr e)))⟩
      have F6 : Fl w6 f (.slice (some ⟨g, 0, none⟩) 150 cap) 0 (.map none) := (n6 f hfl).trans hFq
      have g6 : w6.heap[g]? = some (.cells cur 5 (0, 0)) := (n6 g hgl).trans hgq
      have hlk := look_snone 0 ⟨by omega, by omega⟩ w6
      have hfd := fld110 ⟨#[]⟩ w6
      obtain ⟨d0, d1, d2⟩ := F6.cells
      simp only [show (min (max (0 : Int) 0) 64) = 0 from by decide]
      have kb := back_none (g := g) (o := 0) (n := 64) (c := cap) (cur := cur) 0 (by omega) (by omega) w6 g6 (by omega)
      clear hw6 kk
      go_wp2_with fail
      refine kb.mono ?_
      rintro e w7 ⟨rfl, hw7⟩
      have g7 : w7.heap[g]? = some (.cells (zerosC cur 0 64) 5 (0, 0)) := by rw [hw7]; exact setRow_heap _ _ _ _ _ _ g6
      have n7 : ∀ k, k ≠ g → w7.heap[k]? = w6.heap[k]? := fun k hk => by rw [hw7]; exact setRow_other _ _ _ _ hk
      have t7 : Chg (fun k => k = g ∨ k = l) w6 w7 := by
        rw [hw7]
        exact ⟨rfl, rfl, rfl, by simp, fun k hk hn => (by rw [← hw7]; exact n7 k (fun e => hn (Or.inl e)))⟩
      clear hw7
      go_wp2
      go_roundw
      case rel =>
        exact ⟨1, by omega, by go_num, rfl, (n7 f hfg).trans F6, g7, (n7 l hgl.symm).trans l6, (hCq.trans t6 (fun k hk => Or.inl hk)).trans t7 (fun k hk => Or.inl hk)⟩
      case measure => simp [intOf]
    · have e0 := (World.cell?_of_block (a := ⟨q, 1, none⟩) (hC.block q ltq hqS)).trans (cell_q 1 (by omega))
      obtain ⟨d0, d1, d2⟩ := hF.cells
      have hgr : wr.heap[g]? = some (.cells (zerosC cur 0 64) 5 (0, 0)) := hgr
      have szc : (zerosC cur 0 64).size = cap := by rw [zerosC_size _ _ _ (by omega)]; exact hcs
      have hm9 : maxLen = 9223372036854775807 := rfl
      go_wp2_with fail
      go_quiet (fail)
      simp only [show (min (128 : Int) 150) = 128 from by decide, show ((128 : Int).toNat) = 128 from rfl, Nat.reduceSub]
      have hlq : Ls (wr.drewN nq) l 4 0 1 := hlr
      have hFq : Fl (wr.drewN nq) f (.slice (some ⟨g, 0, none⟩) 150 cap) 0 (.map none) := hF
      have hgq : (wr.drewN nq).heap[g]? = some (.cells (zerosC cur 0 64) 5 (0, 0)) := hgr
      have hCq : Chg (fun k => k = g ∨ k = l) w1 (wr.drewN nq) := hC.drewN nq
      obtain ⟨wq, hwq⟩ : ∃ wq, wr.drewN nq = wq := ⟨_, rfl⟩
      rw [hwq] at hlq hFq hgq hCq ⊢
      have kk := keeps_no 64 (by omega) (by omega) (by decide) wq hlq
      clear hwq d0 d1 d2 e0
      go_wp2_with fail
      refine kk.mono ?_
      rintro e w6 ⟨rfl, hw6⟩
      have l6 : Ls w6 l 4 0 2 := by
        rw [hw6]
        exact row_setCell (k := 1) (row_setCell (k := 2) hlq _) _
      have n6 : ∀ k, k ≠ l → w6.heap[k]? = wq.heap[k]? := fun k hk => by
        rw [hw6]
        rw [Below.heap_setCell _ _ _ _ (by show k ≠ l; exact hk), Below.heap_setCell _ _ _ _ (by show k ≠ l; exact hk)]
      have t6 : Chg (fun k => k = g ∨ k = l) wq w6 := by
        rw [hw6]
        exact ⟨rfl, rfl, rfl, by simp, fun k hk hn => (by rw [← hw6]; exact n6 k (fun e => hn (Or.inr e)))⟩
      have F6 : Fl w6 f (.slice (some ⟨g, 0, none⟩) 150 cap) 0 (.map none) := (n6 f hfl).trans hFq
      have g6 : w6.heap[g]? = some (.cells (zerosC cur 0 64) 5 (0, 0)) := (n6 g hgl).trans hgq
      have hlk := look_snone 1 ⟨by omega, by omega⟩ w6
      have hfd := fld110 ⟨#[]⟩ w6
      obtain ⟨d0, d1, d2⟩ := F6.cells
      simp only [show (min (max (0 : Int) 0) 64) = 0 from by decide]
      have kb := back_none (g := g) (o := 64) (n := 64) (c := (cap - 64)) (cur := (zerosC cur 0 64)) 0 (by omega) (by omega) w6 g6 (by omega)
      clear hw6 kk
      go_wp2_with fail
      refine kb.mono ?_
      rintro e w7 ⟨rfl, hw7⟩
      have g7 : w7.heap[g]? = some (.cells (zerosC (zerosC cur 0 64) 64 64) 5 (0, 0)) := by rw [hw7]; exact setRow_heap _ _ _ _ _ _ g6
      have n7 : ∀ k, k ≠ g → w7.heap[k]? = w6.heap[k]? := fun k hk => by rw [hw7]; exact setRow_other _ _ _ _ hk
      have t7 : Chg (fun k => k = g ∨ k = l) w6 w7 := by
        rw [hw7]
        exact ⟨rfl, rfl, rfl, by simp, fun k hk hn => (by rw [← hw7]; exact n7 k (fun e => hn (Or.inl e)))⟩
      clear hw7
      go_wp2
      go_roundw
      case rel =>
        exact ⟨2, by omega, by go_num, rfl, (n7 f hfg).trans F6, g7, (n7 l hgl.symm).trans l6, (hCq.trans t6 (fun k hk => Or.inl hk)).trans t7 (fun k hk => Or.inl hk)⟩
      case measure => simp [intOf]
    · have e0 := (World.cell?_of_block (a := ⟨q, 2, none⟩) (hC.block q ltq hqS)).trans (cell_q 2 (by omega))
      obtain ⟨d0, d1, d2⟩ := hF.cells
      have hgr : wr.heap[g]? = some (.cells (zerosC (zerosC cur 0 64) 64 64) 5 (0, 0)) := hgr
      have szc : (zerosC (zerosC cur 0 64) 64 64).size = cap := by rw [zerosC_size _ _ _ (by rw [zerosC_size _ _ _ (by omega)]; omega), zerosC_size _ _ _ (by omega)]; exact hcs
      have hm9 : maxLen = 9223372036854775807 := rfl
      go_wp2_with fail
      go_quiet (fail)
      simp only [show (min (192 : Int) 150) = 150 from by decide, show ((150 : Int).toNat) = 150 from rfl, Nat.reduceSub]
      have hlq : Ls (wr.drewN nq) l 4 0 2 := hlr
      have hFq : Fl (wr.drewN nq) f (.slice (some ⟨g, 0, none⟩) 150 cap) 0 (.map none) := hF
      have hgq : (wr.drewN nq).heap[g]? = some (.cells (zerosC (zerosC cur 0 64) 64 64) 5 (0, 0)) := hgr
      have hCq : Chg (fun k => k = g ∨ k = l) w1 (wr.drewN nq) := hC.drewN nq
      obtain ⟨wq, hwq⟩ : ∃ wq, wr.drewN nq = wq := ⟨_, rfl⟩
      rw [hwq] at hlq hFq hgq hCq ⊢
      have kk := keeps_yes 22 (by omega) (by omega) (by decide) wq hlq
      clear hwq d0 d1 d2 e0
      go_wp2_with fail
      refine kk.mono ?_
      rintro e w6 ⟨rfl, hw6⟩
      have l6 : Ls w6 l 4 0 3 := by
        rw [hw6]
        exact row_setCell (k := 2) hlq _
      have n6 : ∀ k, k ≠ l → w6.heap[k]? = wq.heap[k]? := fun k hk => by
        rw [hw6]
        rw [Below.heap_setCell _ _ _ _ (by show k ≠ l; exact hk)]
      have t6 : Chg (fun k => k = g ∨ k = l) wq w6 := by
        rw [hw6]
        exact ⟨rfl, rfl, rfl, by simp, fun k hk hn => (by rw [← hw6]; exact n6 k (fun e => hn (Or.inr e)))⟩
      have F6 : Fl w6 f (.slice (some ⟨g, 0, none⟩) 150 cap) 0 (.map none) := (n6 f hfl).trans hFq
      have g6 : w6.heap[g]? = some (.cells (zerosC (zerosC cur 0 64) 64 64) 5 (0, 0)) := (n6 g hgl).trans hgq
      have hlk := look_snone 2 ⟨by omega, by omega⟩ w6
      have hfd := fld110 ⟨#[]⟩ w6
      obtain ⟨d0, d1, d2⟩ := F6.cells

      have kb := back_all (g := g) (o := 128) (n := 22) (c := (cap - 128)) (by omega) (by omega) w6
      clear hw6 kk
      go_wp2_with fail
      refine kb.mono ?_
      rintro e w7 ⟨rfl, hw7⟩
      subst hw7
      go_wp2
      go_roundw
      case rel =>
        exact ⟨3, by omega, by go_num, by simp; decide, F6, g6, l6, hCq.trans t6 (fun k hk => Or.inl hk)⟩
      case measure => simp [intOf]
    · obtain ⟨d0, d1, d2⟩ := hF.cells
      have f0 := hF.fro 0
      have hm9 : maxLen = 9223372036854775807 := rfl
      have F4 : Fl (wr.setCell ⟨f, 0, none⟩ (.slice (some ⟨g, 0, none⟩) 150 cap)) f (.slice (some ⟨g, 0, none⟩) 150 cap) 0 (.map none) := row_setCell (k := 0) hF _
      go_wp2_with fail
      refine (settle_any _ F4).mono ?_
      rintro e w9 ⟨rfl, hF9, hC9⟩
      go_wp2
      refine bodyPost_end (results_none Tryz.results37 _ _ _) rfl ⟨rfl, hF9, ?_, ?_⟩
      · have hgs := (hC9.block g (by simp; have := lt_of_row hgr; omega) (by show g ≠ f; exact hfg.symm)).trans ((Below.heap_setCell _ _ _ _ (by show g ≠ f; exact hfg.symm)).trans hgr)
        exact hgs
      · have u1 : Chg (fun k => k = f ∨ k = g ∨ k = l) w w1 := ⟨hb1.os, hb1.tape, hb1.output, hb1.size, fun k hk _ => hb1.block k hk⟩
        have u2 := u1.trans hC (fun k hk => Or.inl (Or.inr hk))
        have u3 : Chg (fun k => k = f ∨ k = g ∨ k = l) w (wr.setCell ⟨f, 0, none⟩ (.slice (some ⟨g, 0, none⟩) 150 cap)) := u2.trans (S' := fun k => k = f) ⟨rfl, rfl, rfl, by simp, fun k hk hn => Below.heap_setCell _ _ _ _ (by show k ≠ f; exact hn)⟩ (fun k hk => Or.inl (Or.inl hk))
        exact u3.trans hC9 (fun k hk => Or.inl (Or.inl hk))
end Go.Proofs.YtgjalfcpfgbneaaGreatDoor
