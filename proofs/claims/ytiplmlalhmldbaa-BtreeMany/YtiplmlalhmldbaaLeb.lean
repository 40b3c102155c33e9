/- A leaf without a key; a root that may have too many keys, or none: without of a leaf, grown and shrunk where nothing is to be done. -/
import Derived.Test.YtiplmlalhmldbaaLea
namespace Go.Proofs.Ytiplmlalhmldbaa
open Go.RowKit Go.Shelf
set_option maxRecDepth 100000 in
set_option maxHeartbeats 4000000 in
theorem without_leaf (xs : List Im) (hr : Ris xs) (hn : xs.length ≤ 50) (key : ByteArray) (hk : isK xs key = true) (p : Option Addr) (c : Nat) (q : Option Addr) (d : Nat) (w : World) (hS : Sl w p xs.length c (itC xs)) :
    Calls Try.prog 24 #[.agg #[.slice p xs.length c, .slice q 0 d], .string key] w fun e w' => ∃ v, e = .returned v ∧ Lies w' 0 (delK xs key) v ∧ Below w.heap.size w w' := by
  have kf := fun W hS => find_any xs hr (by omega) key p c q 0 d W hS
  have kl := fun W => leaf_any p xs.length c q 0 d W
  have hlt := isK_lt hk
  rw [hk] at kf
  have kr := fun W hL => repl66 (itC xs) p xs.length c (itC []) none 0 0 (posK xs key) (posK xs key + 1) (by omega) (by omega) (by omega) (by omega) W hL (Sl.nil W)
  unfold delK
  obtain ⟨i0, hi⟩ : ∃ i, posK xs key = i := ⟨_, rfl⟩
  rw [hi] at kf hlt
  have e1 : ((i0 + 1 : Nat) : Int) = (i0 : Int) + 1 := by omega
  simp only [hi, e1] at kr
  rw [hi]
  clear e1 hi hk
  have hil : (i0 : Int) < (xs.length : Int) := by omega
  obtain ⟨w3, hw3⟩ : ∃ w3, (w.alloc (.cells #[.slice p xs.length c, .slice q 0 d] 59)).alloc (.cells #[.slice none 0 0, .slice none 0 0] 59) = w3 := ⟨_, rfl⟩
  have hb3 : Below w.heap.size w w3 := by rw [← hw3]; exact ((Below.refl _ w).alloc (Nat.le_refl _) _).alloc (by simp) _
  have r0 : w3.heap[w.heap.size]? = some (.cells #[.slice p xs.length c, .slice q 0 d] 59 (0, 0)) := by
    rw [← hw3, Below.heap_alloc _ _ _ (by simp)]; exact heap_alloc_new _ _
  have r2 : w3.heap[w.heap.size + 1]? = some (.cells #[.slice none 0 0, .slice none 0 0] 59 (0, 0)) := by
    rw [← hw3]
    have := heap_alloc_new (w.alloc (.cells #[.slice p xs.length c, .slice q 0 d] 59)) (.cells #[.slice none 0 0, .slice none 0 0] 59)
    simpa using this
  have a0 := cell_of_row w3 _ 0 _ _ _ r0
  have a1 := cell_of_row w3 _ 1 _ _ _ r0
  have lt0 := lt_of_row r0
  have lt2 := lt_of_row r2
  go_enter Try.func24, Try.ntmps24
  go_wp2_with fail
  refine (kf _ (hS.later hb3)).mono ?_
  rintro e w4 ⟨rfl, hb4⟩
  have d0 := (cell_later hb4 lt0).trans a0
  have d1 := (cell_later hb4 lt0).trans a1
  have hb04 := hb3.trans (hb4.mono hb3.size)
  clear a0 a1
  go_wp2_with fail
  refine (kl _).mono ?_
  rintro e w5 ⟨rfl, hb5⟩
  have hb45 := hb4.trans (hb5.mono hb4.size)
  have hb05 := hb04.trans (hb5.mono hb04.size)
  have r05 := (hb45.block _ lt0).trans r0
  have r25 := (hb45.block _ lt2).trans r2
  have a0 := cell_of_row w5 _ 0 _ _ _ r05
  have a1 := cell_of_row w5 _ 1 _ _ _ r05
  have kr5 := kr w5 (hS.later hb05)
  have lt25 := lt_of_row r25
  clear kr kf kl d0 d1
  go_wp2_with fail
  refine kr5.mono ?_
  rintro e w6 ⟨p7, c7, rfl, s7, hb6⟩
  have r26 := (hb6.block _ lt25).trans r25
  have c20 := cell_of_row w6 _ 0 _ _ _ r26
  have c21 := cell_of_row w6 _ 1 _ _ _ r26
  have g20 := frozen_of_row w6 _ 0 _ _ r26
  have g21 := frozen_of_row w6 _ 1 _ _ r26
  go_wp2
  refine bodyPost_ret (results_cell_row Try.results24 _ _ (w.heap.size + 1) 59 _ (0, 0) _ rfl (set2_row r26 _ _) Try.underlying59 rfl (by kernel_rfl)) rfl ⟨_, rfl, ?_, ?_⟩
  · refine leaf_end r26 (set2_size _ _ _ _) (set2_other _ _ _ _) ?_ (Sl.nil _)
    rw [itC_app, itC_take, itC_drop]
    simpa [itC] using s7
  · exact below_set2 (hb05.trans (hb6.mono hb05.size)) (by omega) _ _
set_option maxRecDepth 100000 in
set_option maxHeartbeats 2000000 in
theorem grown_small (p : Option Addr) (n c : Nat) (hn : n ≤ 7) (q : Option Addr) (m d : Nat) (w : World) :
    Calls Try.prog 26 #[.agg #[.slice p n c, .slice q m d]] w fun e w' => e = .returned (.agg #[.slice p n c, .slice q m d]) ∧ Below w.heap.size w w' := by
  have hn' : (n : Int) ≤ 7 := by omega
  go_enter Try.func26, Try.ntmps26
  go_wp2
  refine bodyPost_ret (v := .agg #[.slice p n c, .slice q m d]) ?_ rfl ⟨rfl, ?_⟩
  · simp [results, Try.results26, go_sem]
  · exact ((Below.refl _ w).alloc (Nat.le_refl _) _).alloc (by simp) _
set_option maxRecDepth 100000 in
set_option maxHeartbeats 2000000 in
theorem shrunk_leaf (p : Option Addr) (n c : Nat) (q : Option Addr) (d : Nat) (w : World) :
    Calls Try.prog 23 #[.agg #[.slice p n c, .slice q 0 d]] w fun e w' => e = .returned (.agg #[.slice p n c, .slice q 0 d]) ∧ Below w.heap.size w w' := by
  have kl := fun W => leaf_any p n c q 0 d W
  obtain ⟨w3, hw3⟩ : ∃ w3, (w.alloc (.cells #[.slice p n c, .slice q 0 d] 59)).alloc (.cells #[.slice none 0 0, .slice none 0 0] 59) = w3 := ⟨_, rfl⟩
  have hb3 : Below w.heap.size w w3 := by rw [← hw3]; exact ((Below.refl _ w).alloc (Nat.le_refl _) _).alloc (by simp) _
  have r0 : w3.heap[w.heap.size]? = some (.cells #[.slice p n c, .slice q 0 d] 59 (0, 0)) := by
    rw [← hw3, Below.heap_alloc _ _ _ (by simp)]; exact heap_alloc_new _ _
  have r2 : w3.heap[w.heap.size + 1]? = some (.cells #[.slice none 0 0, .slice none 0 0] 59 (0, 0)) := by
    rw [← hw3]
    have := heap_alloc_new (w.alloc (.cells #[.slice p n c, .slice q 0 d] 59)) (.cells #[.slice none 0 0, .slice none 0 0] 59)
    simpa using this
  have a0 := cell_of_row w3 _ 0 _ _ _ r0
  have a1 := cell_of_row w3 _ 1 _ _ _ r0
  go_enter Try.func23, Try.ntmps23
  go_wp2_with fail
  refine (kl _).mono ?_
  rintro e w4 ⟨rfl, hb4⟩
  have r04 := (hb4.block _ (lt_of_row r0)).trans r0
  have r24 := (hb4.block _ (lt_of_row r2)).trans r2
  have d0 := cell_of_row w4 _ 0 _ _ _ r04
  have d1 := cell_of_row w4 _ 1 _ _ _ r04
  have c20 := cell_of_row w4 _ 0 _ _ _ r24
  have c21 := cell_of_row w4 _ 1 _ _ _ r24
  have g20 := frozen_of_row w4 _ 0 _ _ r24
  have g21 := frozen_of_row w4 _ 1 _ _ r24
  go_wp2
  refine bodyPost_ret (results_cell_row Try.results23 _ _ (w.heap.size + 1) 59 _ (0, 0) _ rfl (set2_row r24 _ _) Try.underlying59 rfl (by kernel_rfl)) rfl ⟨rfl, ?_⟩
  exact below_set2 (hb3.trans (hb4.mono hb3.size)) (by omega) _ _
end Go.Proofs.Ytiplmlalhmldbaa
