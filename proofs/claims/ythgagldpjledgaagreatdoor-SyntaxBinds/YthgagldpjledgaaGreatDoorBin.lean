/- Two signs between three paths (SyntaxBinds, called). -/
import Derived.Test.YthgagldpjledgaaGreatDoorWht
namespace Go.Proofs.YthgagldpjledgaaGreatDoor
open Go.RowKit Go.Shelf
attribute [local go_sem] Oper.semAt_some fw0 fw1 fw2
theorem app_listB (a b : ByteArray) : (a ++ b).data.toList = a.data.toList ++ b.data.toList := by
  rw [ByteArray.data_append]
  simp
def sgL : List (List UInt8) := [[79, 82], [65, 78, 68], [61], [60, 62], [60], [60, 61], [62], [62, 61], [43], [45], [42]]
def sgB (i : Nat) : ByteArray := ⟨(sgL.getD i []).toArray⟩
def sgRow : Array Value := #[.string ⟨#[79, 82]⟩, .string ⟨#[65, 78, 68]⟩, .string ⟨#[61]⟩, .string ⟨#[60, 62]⟩, .string ⟨#[60]⟩, .string ⟨#[60, 61]⟩, .string ⟨#[62]⟩, .string ⟨#[62, 61]⟩, .string ⟨#[43]⟩, .string ⟨#[45]⟩, .string ⟨#[42]⟩]
theorem sg_at (i : Nat) (h : i < 11) : sgRow[i]? = some (.string (sgB i)) := by
  rcases (by omega : i = 0 ∨ i = 1 ∨ i = 2 ∨ i = 3 ∨ i = 4 ∨ i = 5 ∨ i = 6 ∨ i = 7 ∨ i = 8 ∨ i = 9 ∨ i = 10) with rfl | rfl | rfl | rfl | rfl | rfl | rfl | rfl | rfl | rfl | rfl <;> rfl
def kdN (i : Nat) : Nat := if i < 2 then 2 else 6
def rkI (i : Nat) : Int := rankI ⟨kdN i, sgL.getD i [], 0⟩
def bText (i j : Nat) : List UInt8 := [68, 69, 76, 69, 84, 69, 32, 70, 82, 79, 77, 32, 116, 32, 87, 72, 69, 82, 69, 32, 120, 32] ++ sgL.getD i [] ++ [32, 121, 32] ++ sgL.getD j [] ++ [32, 122]
/- What is asked of a text of two signs. -/
def bOk (i j : Nat) : Bool :=
  decide (0 ≤ rkI i) && decide (0 ≤ rkI j) && decide ((bText i j).length ≤ 100) &&
  (if rkI i = 3 ∧ rkI j = 3 then (parF (bText i j)).2.2 == 120
   else (parF (bText i j)).2.2 == 0 && ((parF (bText i j)).1.wh []).n == 2 &&
    (if rkI i < rkI j then ((parF (bText i j)).1.wh []).s.data.toList == sgL.getD i [] && ((parF (bText i j)).1.wh [1]).s.data.toList == sgL.getD j [] && ((parF (bText i j)).1.wh [1]).n == 2 && ((parF (bText i j)).1.wh [0]).s.data.toList == [120]
     else ((parF (bText i j)).1.wh []).s.data.toList == sgL.getD j [] && ((parF (bText i j)).1.wh [0]).s.data.toList == sgL.getD i [] && ((parF (bText i j)).1.wh [0]).n == 2 && ((parF (bText i j)).1.wh [1]).s.data.toList == [122]))
theorem b_all : (List.range 11).all (fun i => (List.range 11).all (bOk i)) = true := by decide +kernel
theorem b_ok {i j : Nat} (hi : i < 11) (hj : j < 11) : bOk i j = true := List.all_eq_true.1 (List.all_eq_true.1 b_all i (List.mem_range.2 hi)) j (List.mem_range.2 hj)
theorem text_b (i j : Nat) : ((⟨#[68, 69, 76, 69, 84, 69, 32, 70, 82, 79, 77, 32, 116, 32, 87, 72, 69, 82, 69, 32, 120, 32]⟩ : ByteArray) ++ sgB i ++ ⟨#[32, 121, 32]⟩ ++ sgB j ++ ⟨#[32, 122]⟩) = ⟨(bText i j).toArray⟩ := by
  refine ba_of ?_
  rw [app_listB, app_listB, app_listB, app_listB]
  rfl
theorem kind_any (i : Nat) (h : i < 11) (w : World) : Calls Tryz.prog 13 #[.string (sgB i)] w fun r w' => r = .returned (.int .i64 (kdN i : Int)) ∧ w' = w := by
  rcases (by omega : i = 0 ∨ i = 1 ∨ i = 2 ∨ i = 3 ∨ i = 4 ∨ i = 5 ∨ i = 6 ∨ i = 7 ∨ i = 8 ∨ i = 9 ∨ i = 10) with rfl | rfl | rfl | rfl | rfl | rfl | rfl | rfl | rfl | rfl | rfl
  · show Calls Tryz.prog 13 #[.string ⟨#[79, 82]⟩] w _
    go_enter Tryz.func13, Tryz.ntmps13
    go_wp2
    go_ret
    exact ⟨rfl, rfl⟩
  · show Calls Tryz.prog 13 #[.string ⟨#[65, 78, 68]⟩] w _
    go_enter Tryz.func13, Tryz.ntmps13
    go_wp2
    go_ret
    exact ⟨rfl, rfl⟩
  · show Calls Tryz.prog 13 #[.string ⟨#[61]⟩] w _
    go_enter Tryz.func13, Tryz.ntmps13
    go_wp2
    go_ret
    exact ⟨rfl, rfl⟩
  · show Calls Tryz.prog 13 #[.string ⟨#[60, 62]⟩] w _
    go_enter Tryz.func13, Tryz.ntmps13
    go_wp2
    go_ret
    exact ⟨rfl, rfl⟩
  · show Calls Tryz.prog 13 #[.string ⟨#[60]⟩] w _
    go_enter Tryz.func13, Tryz.ntmps13
    go_wp2
    go_ret
    exact ⟨rfl, rfl⟩
  · show Calls Tryz.prog 13 #[.string ⟨#[60, 61]⟩] w _
    go_enter Tryz.func13, Tryz.ntmps13
    go_wp2
    go_ret
    exact ⟨rfl, rfl⟩
  · show Calls Tryz.prog 13 #[.string ⟨#[62]⟩] w _
    go_enter Tryz.func13, Tryz.ntmps13
    go_wp2
    go_ret
    exact ⟨rfl, rfl⟩
  · show Calls Tryz.prog 13 #[.string ⟨#[62, 61]⟩] w _
    go_enter Tryz.func13, Tryz.ntmps13
    go_wp2
    go_ret
    exact ⟨rfl, rfl⟩
  · show Calls Tryz.prog 13 #[.string ⟨#[43]⟩] w _
    go_enter Tryz.func13, Tryz.ntmps13
    go_wp2
    go_ret
    exact ⟨rfl, rfl⟩
  · show Calls Tryz.prog 13 #[.string ⟨#[45]⟩] w _
    go_enter Tryz.func13, Tryz.ntmps13
    go_wp2
    go_ret
    exact ⟨rfl, rfl⟩
  · show Calls Tryz.prog 13 #[.string ⟨#[42]⟩] w _
    go_enter Tryz.func13, Tryz.ntmps13
    go_wp2
    go_ret
    exact ⟨rfl, rfl⟩
theorem rank_w (i : Nat) (w : World) : Calls Tryz.prog 14 #[.agg #[.int .i64 (kdN i : Int), .string (sgB i), .int .i64 0]] w fun r w' => r = .returned (.int .i64 (rkI i)) ∧ Below w.heap.size w w' := rank_any ⟨kdN i, sgL.getD i [], 0⟩ w
theorem tmod_b (a : Int) : -11 < Int.tmod a 11 ∧ Int.tmod a 11 < 11 := by
  rcases Int.le_total 0 a with h | h
  · rw [Int.tmod_eq_emod_of_nonneg h]; omega
  · have e : a = - (- a) := by omega
    rw [e, Int.neg_tmod, Int.tmod_eq_emod_of_nonneg (by omega)]
    omega
theorem elev (a : Int) : ∃ i : Nat, i < 11 ∧ Int.tmod (Int.tmod a 11 + 11) 11 = (i : Int) := by
  have h := tmod_b a
  rw [Int.tmod_eq_emod_of_nonneg (by omega)]
  exact ⟨((Int.tmod a 11 + 11) % 11).toNat, by omega, by omega⟩
set_option maxRecDepth 100000 in
set_option maxHeartbeats 8000000 in
theorem binds_walk (a0 a1 : Int) (w : World) (he : Ev w) : Calls Tryz.prog 4 #[.int .i64 a0, .int .i64 a1] w fun r w' => r = .returned (.bool true) ∧ Below w.heap.size w w' := by
  obtain ⟨w1, hw1⟩ : ∃ w1, w.alloc (.cells #[.string ⟨#[79, 82]⟩, .string ⟨#[65, 78, 68]⟩, .string ⟨#[61]⟩, .string ⟨#[60, 62]⟩, .string ⟨#[60]⟩, .string ⟨#[60, 61]⟩, .string ⟨#[62]⟩, .string ⟨#[62, 61]⟩, .string ⟨#[43]⟩, .string ⟨#[45]⟩, .string ⟨#[42]⟩] 9) = w1 := ⟨_, rfl⟩
  have hb1' : Below w.heap.size w w1 := by rw [← hw1]; exact (Below.refl _ w).alloc (Nat.le_refl _) _
  have r1 : w1.heap[w.heap.size]? = some (.cells sgRow 9 (0, 0)) := by rw [← hw1]; exact heap_alloc_new _ _
  have l1 := lt_of_row r1
  obtain ⟨i, hi, ei⟩ := elev a0
  obtain ⟨j, hj, ej⟩ := elev a1
  have u0 := tmod_b a0
  have u1 := tmod_b a1
  have v0 : IntKind.i64.wrap (Int.tmod a0 11 + 11) = Int.tmod a0 11 + 11 := by rw [IntKind.wrap_i64]; omega
  have v1 : IntKind.i64.wrap (Int.tmod a1 11 + 11) = Int.tmod a1 11 + 11 := by rw [IntKind.wrap_i64]; omega
  have HC : Hid ((∀ W, Below w1.heap.size w1 W → W.cell? ⟨w.heap.size, i, none⟩ = some (.string (sgB i))) ∧ (∀ W, Below w1.heap.size w1 W → W.cell? ⟨w.heap.size, j, none⟩ = some (.string (sgB j)))) := by
    have h1 : ∀ W, Below w1.heap.size w1 W → W.cell? ⟨w.heap.size, i, none⟩ = some (.string (sgB i)) := fun W hW => (cell_later hW l1).trans ((cell_of_row w1 _ i _ _ _ r1).trans (sg_at i hi))
    have h2 : ∀ W, Below w1.heap.size w1 W → W.cell? ⟨w.heap.size, j, none⟩ = some (.string (sgB j)) := fun W hW => (cell_later hW l1).trans ((cell_of_row w1 _ j _ _ _ r1).trans (sg_at j hj))
    exact ⟨h1, h2⟩
  have HB1 : Hid (Below w.heap.size w w1 ∧ Ev w) := ⟨hb1', he⟩
  have hi' : (i : Int) < 11 := by omega
  have hj' : (j : Int) < 11 := by omega
  obtain ⟨x0, hx0⟩ : ∃ x0, Int.tmod a0 11 = x0 := ⟨_, rfl⟩
  obtain ⟨x1, hx1⟩ : ∃ x1, Int.tmod a1 11 = x1 := ⟨_, rfl⟩
  obtain ⟨y0, hy0⟩ : ∃ y0, x0 + 11 = y0 := ⟨_, rfl⟩
  obtain ⟨y1, hy1⟩ : ∃ y1, x1 + 11 = y1 := ⟨_, rfl⟩
  rw [hx0, hy0] at ei v0
  rw [hx1, hy1] at ej v1
  clear hb1' he u0 u1 r1
  go_enter Tryz.func4, Tryz.ntmps4
  go_wp2_with fail
  refine quiet_class (C := fun W => Below w1.heap.size w1 W) (by kernel_rfl) (by kernel_rfl) ((Below.refl _ w1).trans ⟨rfl, rfl, rfl, Nat.le_refl _, fun _ _ => rfl⟩) ?_
  go_big_quiet_step (fail)
  go_big_quiet_step (fail)
  refine BigFrame.wpQuiet_want (by rfl) (fun Kq hKq => q_pure (v := .int .i64 x0) (fun W => ?_) (hKq _ ?_))
  · go_simp
  simp only [Act.put, List.setIfInBounds_toArray, List.set_cons_zero, List.set_cons_succ]
  refine BigFrame.wpQuiet_want (by rfl) (fun Kq hKq => q_pure (v := .int .i64 y0) (fun W => ?_) (hKq _ ?_))
  · go_simp
  simp only [Act.put, List.setIfInBounds_toArray, List.set_cons_zero, List.set_cons_succ]
  refine BigFrame.wpQuiet_want (by rfl) (fun Kq hKq => q_pure (v := .int .i64 (i : Int)) (fun W => ?_) (hKq _ ?_))
  · go_simp
  simp only [Act.put, List.setIfInBounds_toArray, List.set_cons_zero, List.set_cons_succ]
  refine BigFrame.wpQuiet_want (by rfl) (fun Kq hKq => q_pure (v := .pointer (some ⟨w.heap.size, i, none⟩)) (fun W => ?_) (hKq _ ?_))
  · go_simp
  simp only [Act.put, List.setIfInBounds_toArray, List.set_cons_zero, List.set_cons_succ]
  refine BigFrame.wpQuiet_want (by rfl) (fun Kq hKq => q_at (v := .string (sgB i)) (fun W hW => ?_) (hKq _ ?_))
  · have hc := HC.out.1 W hW
    go_simp
  simp only [Act.put, List.setIfInBounds_toArray, List.set_cons_zero, List.set_cons_succ]
  go_big_quiet_step (fail)
  go_big_quiet_step (fail)
  refine BigFrame.wpQuiet_want (by rfl) (fun Kq hKq => q_pure (v := .int .i64 x1) (fun W => ?_) (hKq _ ?_))
  · go_simp
  simp only [Act.put, List.setIfInBounds_toArray, List.set_cons_zero, List.set_cons_succ]
  refine BigFrame.wpQuiet_want (by rfl) (fun Kq hKq => q_pure (v := .int .i64 y1) (fun W => ?_) (hKq _ ?_))
  · go_simp
  simp only [Act.put, List.setIfInBounds_toArray, List.set_cons_zero, List.set_cons_succ]
  refine BigFrame.wpQuiet_want (by rfl) (fun Kq hKq => q_pure (v := .int .i64 (j : Int)) (fun W => ?_) (hKq _ ?_))
  · go_simp
  simp only [Act.put, List.setIfInBounds_toArray, List.set_cons_zero, List.set_cons_succ]
  refine BigFrame.wpQuiet_want (by rfl) (fun Kq hKq => q_pure (v := .pointer (some ⟨w.heap.size, j, none⟩)) (fun W => ?_) (hKq _ ?_))
  · go_simp
  simp only [Act.put, List.setIfInBounds_toArray, List.set_cons_zero, List.set_cons_succ]
  refine BigFrame.wpQuiet_want (by rfl) (fun Kq hKq => q_at (v := .string (sgB j)) (fun W hW => ?_) (hKq _ ?_))
  · have hc := HC.out.2 W hW
    go_simp
  simp only [Act.put, List.setIfInBounds_toArray, List.set_cons_zero, List.set_cons_succ]
  go_big_quiet_step (fail)
  go_big_quiet_step (fail)
  refine wpQuiet_nil ?_
  intro W hW
  have hk0 := kind_any i hi
  have hk1 := kind_any j hj
  have hr0 := rank_w i
  have hr1 := rank_w j
  have ho := b_ok hi hj
  unfold bOk at ho
  simp only [Bool.and_eq_true, decide_eq_true_eq] at ho
  obtain ⟨⟨⟨ho1, ho2⟩, ho3⟩, ho4⟩ := ho
  have hst : Hid ((⟨#[68, 69, 76, 69, 84, 69, 32, 70, 82, 79, 77, 32, 116, 32, 87, 72, 69, 82, 69, 32, 120, 32]⟩ : ByteArray) ++ sgB i ++ ⟨#[32, 121, 32]⟩ ++ sgB j ++ ⟨#[32, 122]⟩ = ⟨(bText i j).toArray⟩) := text_b i j
  have ht : (⟨(bText i j).toArray⟩ : ByteArray).size ≤ 10000 := by
    rw [Lib.size_eq]
    show (bText i j).length ≤ 10000
    omega
  have hp0 := fun W2 hW2 => parse_text ⟨(bText i j).toArray⟩ ht W2 hW2
  have hsz : (sgB i).size ≤ 10 ∧ (sgB j).size ≤ 10 := by
    have h : ∀ n, n < 11 → (sgB n).size ≤ 10 := by decide
    exact ⟨h i hi, h j hj⟩
  have e0 : (⟨(bText i j).toArray⟩ : ByteArray).data.toList = bText i j := rfl
  rw [e0] at hp0
  obtain ⟨X, hX⟩ : ∃ X, parF (bText i j) = X := ⟨_, rfl⟩
  rw [hX] at hp0 ho4
  obtain ⟨D, hD⟩ : ∃ D : ByteArray, ⟨(bText i j).toArray⟩ = D := ⟨_, rfl⟩
  rw [hD] at hp0 hst
  obtain ⟨p, hp⟩ : ∃ p, sgB i = p := ⟨_, rfl⟩
  obtain ⟨q, hq⟩ : ∃ q, sgB j = q := ⟨_, rfl⟩
  have hpd : Hid (sgL.getD i [] = p.data.toList ∧ sgL.getD j [] = q.data.toList) := by
    rw [← hp, ← hq]
    exact ⟨rfl, rfl⟩
  rw [hp] at hk0 hr0 hst hsz
  rw [hq] at hk1 hr1 hst hsz
  obtain ⟨s1, s2⟩ := hsz
  obtain ⟨m, hm⟩ : ∃ m, rkI i = m := ⟨_, rfl⟩
  obtain ⟨n, hn⟩ : ∃ n, rkI j = n := ⟨_, rfl⟩
  rw [hm] at hr0 ho1 ho4
  rw [hn] at hr1 ho2 ho4
  have HO : Hid ((if m = 3 ∧ n = 3 then X.2.2 == 120 else X.2.2 == 0 && (X.1.wh []).n == 2 && if m < n then (X.1.wh []).s.data.toList == sgL.getD i [] && (X.1.wh [1]).s.data.toList == sgL.getD j [] && (X.1.wh [1]).n == 2 && (X.1.wh [0]).s.data.toList == [120] else (X.1.wh []).s.data.toList == sgL.getD j [] && (X.1.wh [0]).s.data.toList == sgL.getD i [] && (X.1.wh [0]).n == 2 && (X.1.wh [1]).s.data.toList == [122]) = true) := ho4
  have HW : Hid (Below w.heap.size w W ∧ Ev W) := by
    have h := HB1.out.1.trans (hW.mono HB1.out.1.size)
    exact ⟨h, HB1.out.2.later h⟩
  clear hX hD hm hn ho4 ho3 e0 ht HC hW hx0 hx1 hy0 hy1 ei ej v0 v1 hi' hj' hi hj
  rw [hp, hq]
  clear hp hq
  obtain ⟨k0, hkk0⟩ : ∃ k, (kdN i : Int) = k := ⟨_, rfl⟩
  obtain ⟨k1, hkk1⟩ : ∃ k, (kdN j : Int) = k := ⟨_, rfl⟩
  rw [hkk0] at hk0 hr0
  rw [hkk1] at hk1 hr1
  clear hkk0 hkk1
  go_wp2_with fail
  refine (hk0 W).mono ?_
  rintro r w2 ⟨rfl, hw2⟩
  have hw2' := hw2.symm
  clear hw2
  subst hw2'
  go_wp2_with fail
  refine (hr0 W).mono ?_
  rintro r w3 ⟨rfl, hb3⟩
  have s3 := hb3.size
  have HB3 : Hid (Below w.heap.size w w3 ∧ Ev w3) := ⟨HW.out.1.trans (hb3.mono HW.out.1.size), HW.out.2.later hb3⟩
  clear hk0 hr0 hb3 s3
  go_wp2_with fail
  refine (hk1 w3).mono ?_
  rintro r w4 ⟨rfl, hw4⟩
  have hw4' := hw4.symm
  clear hw4
  subst hw4'
  go_wp2_with fail
  refine (hr1 w3).mono ?_
  rintro r w5 ⟨rfl, hb5⟩
  have HB5 : Hid (Below w.heap.size w w5 ∧ Ev w5) := ⟨HB3.out.1.trans (hb5.mono HB3.out.1.size), HB3.out.2.later hb5⟩
  have hp5 := hp0 w5 HB5.out.2
  clear hk1 hr1 hb5 HB3 HW hp0
  have hT : (⟨#[68, 69, 76, 69, 84, 69, 32, 70, 82, 79, 77, 32, 116, 32, 87, 72, 69, 82, 69, 32, 120, 32]⟩ : ByteArray) ++ p ++ ⟨#[32, 121, 32]⟩ ++ q ++ ⟨#[32, 122]⟩ = D := hst.out
  go_wp2_with fail
  refine hp5.mono ?_
  rintro r w6 ⟨R, rfl, hx, hb6⟩
  obtain ⟨w7, hw7, ra, r7, hb7, hx7⟩ := box30 hx
  have hB7 := HB5.out.1.trans ((hb6.trans (hb7.mono hb6.size)).mono HB5.out.1.size)
  have ka := awake_any w7 (HB5.out.2.later (hb6.trans (hb7.mono hb6.size)))
  have lx := lt_of_row r7
  have HB : Hid (Below w.heap.size w w7 ∧ (w6.alloc (.cells #[.int .i64 0, .string ⟨#[]⟩, .string ⟨#[]⟩, .int .i64 0, .string ⟨#[]⟩, .int .i64 0, .bool false, .int .i64 0, .string ⟨#[]⟩, .slice none 0 0, .slice none 0 0, .slice none 0 0, .slice none 0 0, .slice none 0 0, .slice none 0 0, .int .i64 0, .string ⟨#[]⟩, .int .i64 0, .bool false, .int .i64 0, .string ⟨#[]⟩, .slice none 0 0, .slice none 0 0, .slice none 0 0, .slice none 0 0, .slice none 0 0, .bool false, .bool false, .string ⟨#[]⟩, .bool false, .int .i64 (0)] 30)).heap[w6.heap.size]? = some (.cells zero31 30 (0, 0)) ∧ (stA R).all (·.oneCell') = true ∧ w7.heap[w6.heap.size]? = some (.cells (stA R) 30 (0, 0)) ∧ Sx w7 (fun k => w5.heap.size ≤ k) R X.1) := ⟨hB7, ra, hx.ones, r7, hx7⟩
  obtain ⟨A, hA⟩ : ∃ A, stA R = A := ⟨_, rfl⟩
  have HA : Hid (stA R = A ∧ A.size = 31) := by
    have h : A.size = 31 := by rw [← hA]; rfl
    exact ⟨hA, h⟩
  rw [hA] at HB hw7 ⊢
  clear hp5 hx hb6 ra r7 hb7 hx7 hA hB7 hst hT s1 s2
  have n1 : ¬ m < 0 := by omega
  have n2 : ¬ n < 0 := by omega
  obtain ⟨e, hee⟩ : ∃ e, (X.2.2 : Int) = e := ⟨_, rfl⟩
  obtain ⟨pl, hpl⟩ : ∃ e, (X.2.1 : Int) = e := ⟨_, rfl⟩
  rw [hee, hpl]
  clear hpl
  have HEE : Hid ((X.2.2 : Int) = e) := hee
  clear hee ho1 ho2
  go_wp2_with (first | (refine wpList_put rfl 30 (.tmp 11) (.tmp 52) rfl rfl rfl rfl HB.out.2.1 HA.out.2 (info30.trans (congrArg some HA.out.2.symm)) HB.out.2.2.1 ?_; rw [hw7]) | fail)
  refine ka.mono ?_
  rintro r w8 ⟨rfl, hb8⟩
  have HB8 : Hid (Below w.heap.size w w8 ∧ w8.heap[w6.heap.size]? = some (.cells (stA R) 30 (0, 0)) ∧ Sx w8 (fun k => w5.heap.size ≤ k) R X.1) := by
    obtain ⟨b1, -, -, b4, b5⟩ := HB.out
    rw [← HA.out.1] at b4
    exact ⟨b1.trans (hb8.mono b1.size), (hb8.block _ lx).trans b4, b5.since (Since.below hb8)⟩
  clear ka hb8 hw7 HB lx
  by_cases h3 : m = 3 ∧ n = 3
  · have e3 : X.2.2 = 120 := by
      have h := HO.out
      rw [if_pos h3] at h
      simpa using h
    have e3' : e = 120 := by have := HEE.out; omega
    obtain ⟨hm3, hn3⟩ := h3
    subst hm3 hn3 e3'
    clear e3 HO HEE
    go_wp2
    go_ret
    exact ⟨rfl, HB8.out.1⟩
  · have e3 : X.2.2 = 0 ∧ (X.1.wh []).n = 2 := by
      have h := HO.out
      rw [if_neg h3] at h
      simp only [Bool.and_eq_true, beq_iff_eq] at h
      exact h.1
    have e0 : e = 0 := by have := HEE.out; omega
    subst e0
    obtain ⟨-, r8, x8⟩ := HB8.out
    obtain ⟨dd, hd⟩ := x8.wh
    obtain ⟨t1, t2, t3⟩ := hd.top
    obtain ⟨g, o, hkp, hg, hc, c1, ⟨q8, z8, c2⟩, c3, ⟨q9, z9, c4⟩⟩ := hd.kids e3.2
    rw [e3.2] at t3
    have q16 : w8.cell? ⟨w6.heap.size, 16, none⟩ = some (.string (X.1.wh []).s) := by rw [cell_of_row w8 _ 16 _ _ _ r8]; show some (Value.string R.wh.s) = _; rw [t2]
    have q23 : w8.cell? ⟨w6.heap.size, 23, none⟩ = some (.slice (some ⟨g, o, none⟩) 2 R.wh.kc) := by rw [cell_of_row w8 _ 23 _ _ _ r8]; show some (Value.slice R.wh.kp R.wh.n R.wh.kc) = _; rw [hkp, t3]
    clear r8 x8 hd t1 t2 t3 hkp
    have hm3 : (m == 3 && n == 3) = false := by
      simp only [Bool.and_eq_false_iff, beq_eq_false_iff_ne]
      by_cases hm3 : m = 3
      · right; exact fun hn3 => h3 ⟨hm3, hn3⟩
      · left; exact hm3
    by_cases hmn : m < n
    · have e4 : (X.1.wh []).s = p ∧ (X.1.wh [1]).s = q ∧ (X.1.wh [1]).n = 2 ∧ (X.1.wh [0]).s = ⟨#[120]⟩ := by
        have h := HO.out
        rw [if_neg h3, if_pos hmn] at h
        simp only [Bool.and_eq_true, beq_iff_eq] at h
        obtain ⟨-, ⟨⟨h1, h2⟩, h4⟩, h5⟩ := h
        rw [hpd.out.1] at h1
        rw [hpd.out.2] at h2
        exact ⟨ba_of h1, ba_of h2, h4, ba_of h5⟩
      rw [e4.1] at q16
      rw [e4.2.2.2] at c1
      rw [e4.2.1] at c3
      rw [e4.2.2.1] at c4
      clear e4 e3 HO HEE h3 c2
      by_cases hmx : m = 3
      · have hnx : ¬ n = 3 := by omega
        have hnb : (n == 3) = false := by simpa using hnx
        clear hm3
        go_wp2
        all_goals first
          | (exfalso; omega)
          | (go_ret; exact ⟨rfl, HB8.out.1⟩)
      · have hmb : (m == 3) = false := by simpa using hmx
        clear hm3
        go_wp2
        all_goals first
          | (exfalso; omega)
          | (go_ret; exact ⟨rfl, HB8.out.1⟩)
    · have e4 : (X.1.wh []).s = q ∧ (X.1.wh [0]).s = p ∧ (X.1.wh [0]).n = 2 ∧ (X.1.wh [1]).s = ⟨#[122]⟩ := by
        have h := HO.out
        rw [if_neg h3, if_neg hmn] at h
        simp only [Bool.and_eq_true, beq_iff_eq] at h
        obtain ⟨-, ⟨⟨h1, h2⟩, h4⟩, h5⟩ := h
        rw [hpd.out.2] at h1
        rw [hpd.out.1] at h2
        exact ⟨ba_of h1, ba_of h2, h4, ba_of h5⟩
      rw [e4.1] at q16
      rw [e4.2.2.2] at c3
      rw [e4.2.1] at c1
      rw [e4.2.2.1] at c2
      clear e4 e3 HO HEE c4
      by_cases hmx : m = 3
      · have hnx : ¬ n = 3 := fun hn3 => h3 ⟨hmx, hn3⟩
        have hnb : (n == 3) = false := by simpa using hnx
        clear hm3 h3
        go_wp2
        all_goals first
          | (exfalso; omega)
          | (go_ret; exact ⟨rfl, HB8.out.1⟩)
      · have hmb : (m == 3) = false := by simpa using hmx
        clear hm3 h3
        go_wp2
        all_goals first
          | (exfalso; omega)
          | (go_ret; exact ⟨rfl, HB8.out.1⟩)
end Go.Proofs.YthgagldpjledgaaGreatDoor
