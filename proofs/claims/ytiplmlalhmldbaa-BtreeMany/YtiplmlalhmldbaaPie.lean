/- A piece of a node (piece). -/
import Derived.Test.YtiplmlalhmldbaaNdl
namespace Go.Proofs.Ytiplmlalhmldbaa
open Go.RowKit Go.Shelf
set_option maxRecDepth 100000 in
set_option maxHeartbeats 4000000 in
theorem piece_leaf (xs : List Im) (hn : xs.length ≤ 60) (a b : Nat) (hab : a ≤ b) (hb : b ≤ xs.length) (p : Option Addr) (c : Nat) (q : Option Addr) (d : Nat) (w : World) (hS : Sl w p xs.length c (itC xs)) :
    Calls Try.prog 46 #[.agg #[.slice p xs.length c, .slice q 0 d], .int .i64 (a : Int), .int .i64 (b : Int)] w fun e w' => ∃ v, e = .returned v ∧ Lies w' 0 ((xs.drop a).take (b - a)) v ∧ Below w.heap.size w w' := by
  have hcap := hS.cap
  have hM := hS.mid hab hb
  obtain ⟨p2, hp2⟩ : ∃ p2, (if c = a then p else Option.map (fun x => x.add (a * 2)) p) = p2 := ⟨_, rfl⟩
  rw [hp2, ← itC_drop, ← itC_take] at hM
  have hcl := fun W h => clone66 p2 (b - a) (c - a) (itC ((xs.drop a).take (b - a))) (by omega) W h
  have kl := fun W => leaf_any p xs.length c q 0 d W
  obtain ⟨w2, hw2⟩ : ∃ w2, (w.alloc (.cells #[.slice p xs.length c, .slice q 0 d] 59)).alloc (.cells #[.slice none 0 0, .slice none 0 0] 59) = w2 := ⟨_, rfl⟩
  have hb2 : Below w.heap.size w w2 := by rw [← hw2]; exact ((Below.refl _ w).alloc (Nat.le_refl _) _).alloc (by simp) _
  have r0 : w2.heap[w.heap.size]? = some (.cells #[.slice p xs.length c, .slice q 0 d] 59 (0, 0)) := by
    rw [← hw2, Below.heap_alloc _ _ _ (by simp)]; exact heap_alloc_new _ _
  have r1 : w2.heap[w.heap.size + 1]? = some (.cells #[.slice none 0 0, .slice none 0 0] 59 (0, 0)) := by
    rw [← hw2]
    have := heap_alloc_new (w.alloc (.cells #[.slice p xs.length c, .slice q 0 d] 59)) (.cells #[.slice none 0 0, .slice none 0 0] 59)
    simpa using this
  have a0 := cell_of_row w2 _ 0 _ _ _ r0
  have a1 := cell_of_row w2 _ 1 _ _ _ r0
  have hac : a ≤ c := by omega
  have hbc : b ≤ c := by omega
  have hM2 := hM.later hb2
  have HX : Hid (Sl w2 p2 (b - a) (c - a) (itC ((xs.drop a).take (b - a)))) := hM2
  clear hM hM2 hS
  go_enter Try.func46, Try.ntmps46
  go_wp2_with fail
  refine (hcl _ HX.out).mono ?_
  rintro e w3 ⟨p', c', rfl, hs3, hb3⟩
  clear hw2 hcl HX
  have lt0 := lt_of_row r0
  have lt1 := lt_of_row r1
  have g0 := (hb3.block _ lt0).trans r0
  have g1 := (hb3.block _ lt1).trans r1
  have lt03 := lt_of_row g0
  have z0 : ∀ o, (w3.alloc o).cell? ⟨w.heap.size, 0, none⟩ = some (.slice p xs.length c) := fun o => cell_of_row _ _ 0 _ _ _ ((Below.heap_alloc w3 o _ lt03).trans g0)
  have z1 : ∀ o, (w3.alloc o).cell? ⟨w.heap.size, 1, none⟩ = some (.slice q 0 d) := fun o => cell_of_row _ _ 1 _ _ _ ((Below.heap_alloc w3 o _ lt03).trans g0)
  go_wp2_with fail
  refine (kl _).mono ?_
  rintro e w5 ⟨rfl, hb5⟩
  clear z0 z1
  obtain ⟨w4, hw4⟩ : ∃ w4, w3.alloc (.cells #[.slice p' (b - a) c', .slice none 0 0] 59) = w4 := ⟨_, rfl⟩
  have hb4 : Below w2.heap.size w2 w4 := by rw [← hw4]; exact hb3.alloc hb3.size _
  have r7 : w4.heap[w3.heap.size]? = some (.cells #[.slice p' (b - a) c', .slice none 0 0] 59 (0, 0)) := by rw [← hw4]; exact heap_alloc_new _ _
  have hs4 : Sl w4 p' (b - a) c' (itC ((xs.drop a).take (b - a))) := hs3.later (by rw [← hw4]; exact (Below.refl _ w3).alloc (Nat.le_refl _) _)
  have q0 := (hb4.block _ lt0).trans r0
  have q1 := (hb4.block _ lt1).trans r1
  rw [hw4] at hb5
  clear hw4
  have hs5 := hs4.later hb5
  have q7 := (hb5.block _ (lt_of_row r7)).trans r7
  have q15 := (hb5.block _ (lt_of_row q1)).trans q1
  have y0 := cell_of_row w5 _ 0 _ _ _ q7
  have y1 := cell_of_row w5 _ 1 _ _ _ q7
  have x0 := cell_of_row w5 _ 0 _ _ _ q15
  have x1 := cell_of_row w5 _ 1 _ _ _ q15
  have f0 := frozen_of_row w5 _ 0 _ _ q15
  have f1 := frozen_of_row w5 _ 1 _ _ q15
  have hB5 : Below w.heap.size w w5 := (hb2.trans (hb4.mono hb2.size)).trans (hb5.mono (Nat.le_trans hb2.size hb4.size))
  clear q0 q1 r7 hs4 kl
  go_wp2
  refine bodyPost_ret (results_cell_row Try.results46 _ _ (w.heap.size + 1) 59 _ (0, 0) _ rfl (set2_row q15 _ _) Try.underlying59 rfl (by kernel_rfl)) rfl ⟨_, rfl, ?_, ?_⟩
  · exact leaf_end q15 (set2_size _ _ _ _) (set2_other _ _ _ _) hs5 (Sl.nil _)
  · exact below_set2 hB5 (by omega) _ _
set_option maxRecDepth 100000 in
set_option maxHeartbeats 4000000 in
theorem piece_inner {h : Nat} (xs : List Im) (ts : List (Nd h)) (hn : xs.length ≤ 60) (hts : ts.length = xs.length + 1) (a b : Nat) (hab : a ≤ b) (hb : b ≤ xs.length) (p : Option Addr) (c : Nat) (q : Option Addr) (d : Nat) (w : World) (hS : Sl w p xs.length c (itC xs)) (L : List Value) (hK : Sl w q ts.length d L) (hL : LiesL w h ts L) :
    Calls Try.prog 46 #[.agg #[.slice p xs.length c, .slice q ts.length d], .int .i64 (a : Int), .int .i64 (b : Int)] w fun e w' => ∃ v, e = .returned v ∧ Lies w' (h + 1) (((xs.drop a).take (b - a), (ts.drop a).take (b + 1 - a)) : List Im × List (Nd h)) v ∧ Below w.heap.size w w' := by
  have hcap := hS.cap
  have hcapk := hK.cap
  have hM := hS.mid hab hb
  obtain ⟨p2, hp2⟩ : ∃ p2, (if c = a then p else Option.map (fun x => x.add (a * 2)) p) = p2 := ⟨_, rfl⟩
  rw [hp2, ← itC_drop, ← itC_take] at hM
  have hN := hK.mid (a := a) (b := b + 1) (by omega) (by omega)
  obtain ⟨q2, hq2⟩ : ∃ q2, (if d = a then q else Option.map (fun x => x.add (a * 2)) q) = q2 := ⟨_, rfl⟩
  rw [hq2] at hN
  have hLL := (hL.drop a).take (b + 1 - a)
  have hcl := fun W h => clone66 p2 (b - a) (c - a) (itC ((xs.drop a).take (b - a))) (by omega) W h
  have hck := fun W h => clone59 q2 (b + 1 - a) (d - a) ((L.drop (a * 2)).take ((b + 1 - a) * 2)) (by omega) W h
  have kl := fun W => leaf_any p xs.length c q ts.length d W
  obtain ⟨M, hMe⟩ : ∃ M, (L.drop (a * 2)).take ((b + 1 - a) * 2) = M := ⟨_, rfl⟩
  rw [hMe] at hN hLL hck
  obtain ⟨m, hm⟩ : ∃ m, ts.length = m := ⟨_, rfl⟩
  rw [hm] at kl hts hcapk ⊢
  have hm0 : ¬ m = 0 := by omega
  have hmb : b + 1 ≤ m := by omega
  rw [decide_eq_false hm0] at kl
  obtain ⟨w2, hw2⟩ : ∃ w2, (w.alloc (.cells #[.slice p xs.length c, .slice q m d] 59)).alloc (.cells #[.slice none 0 0, .slice none 0 0] 59) = w2 := ⟨_, rfl⟩
  have hb2 : Below w.heap.size w w2 := by rw [← hw2]; exact ((Below.refl _ w).alloc (Nat.le_refl _) _).alloc (by simp) _
  have r0 : w2.heap[w.heap.size]? = some (.cells #[.slice p xs.length c, .slice q m d] 59 (0, 0)) := by
    rw [← hw2, Below.heap_alloc _ _ _ (by simp)]; exact heap_alloc_new _ _
  have r1 : w2.heap[w.heap.size + 1]? = some (.cells #[.slice none 0 0, .slice none 0 0] 59 (0, 0)) := by
    rw [← hw2]
    have := heap_alloc_new (w.alloc (.cells #[.slice p xs.length c, .slice q m d] 59)) (.cells #[.slice none 0 0, .slice none 0 0] 59)
    simpa using this
  have a0 := cell_of_row w2 _ 0 _ _ _ r0
  have a1 := cell_of_row w2 _ 1 _ _ _ r0
  have hac : a ≤ c := by omega
  have hbc : b ≤ c := by omega
  have had : a ≤ d := by omega
  have hbd : b + 1 ≤ d := by omega
  have HX : Hid (Sl w2 p2 (b - a) (c - a) (itC ((xs.drop a).take (b - a)))) := hM.later hb2
  have HN : Hid (Sl w2 q2 (b + 1 - a) (d - a) M) := hN.later hb2
  have HLL : Hid (LiesL w h ((ts.drop a).take (b + 1 - a)) M) := hLL
  clear hM hN hLL hS hK hL hMe hm hts
  go_enter Try.func46, Try.ntmps46
  go_wp2_with fail
  refine (hcl _ HX.out).mono ?_
  rintro e w3 ⟨p', c', rfl, hs3, hb3⟩
  clear hw2 hcl HX
  have lt0 := lt_of_row r0
  have lt1 := lt_of_row r1
  have g0 := (hb3.block _ lt0).trans r0
  have g1 := (hb3.block _ lt1).trans r1
  have lt03 := lt_of_row g0
  have z0 : ∀ o, (w3.alloc o).cell? ⟨w.heap.size, 0, none⟩ = some (.slice p xs.length c) := fun o => cell_of_row _ _ 0 _ _ _ ((Below.heap_alloc w3 o _ lt03).trans g0)
  have z1 : ∀ o, (w3.alloc o).cell? ⟨w.heap.size, 1, none⟩ = some (.slice q m d) := fun o => cell_of_row _ _ 1 _ _ _ ((Below.heap_alloc w3 o _ lt03).trans g0)
  go_wp2_with fail
  refine (kl _).mono ?_
  rintro e w5 ⟨rfl, hb5⟩
  clear z0 z1
  obtain ⟨w4, hw4⟩ : ∃ w4, w3.alloc (.cells #[.slice p' (b - a) c', .slice none 0 0] 59) = w4 := ⟨_, rfl⟩
  have hb4 : Below w2.heap.size w2 w4 := by rw [← hw4]; exact hb3.alloc hb3.size _
  have r7 : w4.heap[w3.heap.size]? = some (.cells #[.slice p' (b - a) c', .slice none 0 0] 59 (0, 0)) := by rw [← hw4]; exact heap_alloc_new _ _
  have hs4 : Sl w4 p' (b - a) c' (itC ((xs.drop a).take (b - a))) := hs3.later (by rw [← hw4]; exact (Below.refl _ w3).alloc (Nat.le_refl _) _)
  have q0 := (hb4.block _ lt0).trans r0
  have q1 := (hb4.block _ lt1).trans r1
  rw [hw4] at hb5
  clear hw4
  have hB4 : Below w.heap.size w w4 := hb2.trans (hb4.mono hb2.size)
  have HN4 : Hid (Sl w4 q2 (b + 1 - a) (d - a) M) := HN.out.later hb4
  have lt7 := lt_of_row r7
  have hw23 : w2.heap.size ≤ w3.heap.size := hb3.size
  clear a0 a1 g0 g1 r0 r1 hs3 HN hb4 hb3
  have q05 := (hb5.block _ (lt_of_row q0)).trans q0
  have q15 := (hb5.block _ (lt_of_row q1)).trans q1
  have q75 := (hb5.block _ lt7).trans r7
  have z05 := cell_of_row w5 _ 0 _ _ _ q05
  have z15 := cell_of_row w5 _ 1 _ _ _ q05
  have hs5 := hs4.later hb5
  have hB5 : Below w.heap.size w w5 := hB4.trans (hb5.mono hB4.size)
  have HN5 : Hid (Sl w5 q2 (b + 1 - a) (d - a) M) := HN4.out.later hb5
  have hw27 : w2.heap.size ≤ w3.heap.size := hw23
  clear hs4 r7 q0 q1 HN4 hb5 hB4
  go_wp2_with fail
  refine (hck _ HN5.out).mono ?_
  rintro e w6 ⟨q', d', rfl, hs6, hb6, hlo6⟩
  have hl5 : w.heap.size + 1 < w5.heap.size := lt_of_row q15
  have hl7 : w3.heap.size < w5.heap.size := lt_of_row q75
  have q76 := (hb6.block _ hl7).trans q75
  have q16 := (hb6.block _ hl5).trans q15
  have hi6 := hs5.later hb6
  have hB6 : Below w.heap.size w w6 := hB5.trans (hb6.mono hB5.size)
  have y0 := cell_of_row w6 _ 0 _ _ _ q76
  have y1 := cell_of_row w6 _ 1 _ _ _ q76
  have f71 := frozen_of_row w6 _ 1 _ _ q76
  have x0 := cell_of_row w6 _ 0 _ _ _ q16
  have x1 := cell_of_row w6 _ 1 _ _ _ q16
  have f0 := frozen_of_row w6 _ 0 _ _ q16
  have f1 := frozen_of_row w6 _ 1 _ _ q16
  have hne7 : ¬ w3.heap.size = w.heap.size + 1 := by omega
  have hne8 : ¬ w.heap.size + 1 = w3.heap.size := by omega
  clear q05 q15 q75 z05 z15 hs5 HN5 hck kl
  go_wp2
  obtain ⟨w7, hw7⟩ : ∃ w7, w6.setCell ⟨w3.heap.size, 1, none⟩ (.slice q' (b + 1 - a) d') = w7 := ⟨_, rfl⟩
  have hB7 : Below w.heap.size w w7 := by
    rw [← hw7]
    exact hB6.setCell (p := ⟨w3.heap.size, 1, none⟩) (by show w.heap.size ≤ w3.heap.size; have := hb2.size; omega) _
  have o7 : ∀ k, k ≠ w3.heap.size → w7.heap[k]? = w6.heap[k]? := fun k hk => by rw [← hw7]; exact Below.heap_setCell _ _ _ k hk
  have s7 : w6.heap.size ≤ w7.heap.size := by rw [← hw7]; simp
  have q17 : w7.heap[w.heap.size + 1]? = some (.cells #[.slice none 0 0, .slice none 0 0] 59 (0, 0)) := (o7 _ hne8).trans q16
  have hi7 := hi6.kept q76 s7 o7 (fun u hu hm => by
    obtain ⟨st, rfl⟩ := itC_head hu
    simp at hm)
  have hk7 := hs6.off s7 o7 (fun ad had => by have := hlo6 ad had; omega)
  rw [hw7]
  clear hw7
  refine bodyPost_ret (results_cell_row Try.results46 _ _ (w.heap.size + 1) 59 _ (0, 0) _ rfl (set2_row q17 _ _) Try.underlying59 rfl (by kernel_rfl)) rfl ⟨_, rfl, ?_, ?_⟩
  · refine Lies.make (hi7.kept q17 (set2_size _ _ _ _) (set2_other _ _ _ _) (fun u hu hm => by
      obtain ⟨st, rfl⟩ := itC_head hu
      simp at hm)) (hk7.off (set2_size _ _ _ _) (set2_other _ _ _ _) (fun ad had => by have := hlo6 ad had; omega)) (HLL.out.later (below_set2 hB7 (by omega) _ _))
  · exact below_set2 hB7 (by omega) _ _
end Go.Proofs.Ytiplmlalhmldbaa
