/- Signs between two sides: reckon, by what all and signed answer; all, where the first fails; + and = of numbers (signed). + and = of two numbers: Compare, signed. -/
import Derived.Test.YtnnclhmhbmbkfaaGreatDoorRk2
import Derived.Test.YtnnclhmhbmbkfaaGreatDoorXai
import Derived.Test.YtnnclhmhbmbkfaaGreatDoorXaj
namespace Go.Proofs.YtnnclhmhbmbkfaaGreatDoor
open Go.RowKit Go.Shelf
attribute [local go_sem] Oper.semAt_some
set_option maxRecDepth 100000 in
set_option maxHeartbeats 4000000 in
theorem reckon_sign (sg : ByteArray) (c : Int) (hc0 : (c == 0) = false) (hc1 : (c == 1) = false) (ha : ∀ W : World, Calls Tryz.prog 40 #[.string sg] W fun r w' => r = .returned (.int .i64 c) ∧ w' = W) (vk : Int) (vb : Bool) (vn : Int) (vs : ByteArray) (kg ko kc : Nat) (np : Option Addr) (m nc : Nat) (v : Lf) (E : Int) (LL : List Value) (dk : Int) (db : Bool) (dn : Int) (ds : ByteArray) (dp : Option Addr) (dm dc : Nat) (dq : Option Addr) (dl de : Nat) (w : World) (hall : ∀ W, Below w.heap.size w W → Calls Tryz.prog 42 #[.slice (some ⟨kg, ko, none⟩) 2 kc, .agg #[.int .i64 dk, .bool db, .int .i64 dn, .string ds, .slice dp dm dc, .slice dq dl de]] W fun r W' => ∃ q k, r = .returned (.tuple #[.slice q 2 k, .int .i64 0]) ∧ W'.ownsRow W.heap.size 25 6 (.slice q 2 k) 2 LL ∧ Below W.heap.size W W') (hsg : ∀ (q cap : Nat) (_ : 2 ≤ cap ∧ cap ≤ maxLen) (w : World) (_ : q < w.heap.size) (_ : ∀ j, j < 12 → w.cell? ⟨q, j, none⟩ = LL[j]?), Calls Tryz.prog 45 #[.agg #[.int .i64 6, .string sg, .int .i64 vk, .bool vb, .int .i64 vn, .string vs, .slice none 0 0, .slice none 0 0, .slice (some ⟨kg, ko, none⟩) 2 kc, .slice np m nc], .slice (some ⟨q, 0, none⟩) 2 cap] w fun r w' => r = .returned (.tuple #[.agg #[.int .i64 v.k, .bool v.b, .int .i64 v.n, .string v.s, .slice v.p 0 v.pc, .slice v.q 0 v.qc], .int .i64 E]) ∧ Below w.heap.size w w') :
    Calls Tryz.prog 21 #[.agg #[.int .i64 6, .string sg, .int .i64 vk, .bool vb, .int .i64 vn, .string vs, .slice none 0 0, .slice none 0 0, .slice (some ⟨kg, ko, none⟩) 2 kc, .slice np m nc], .agg #[.int .i64 dk, .bool db, .int .i64 dn, .string ds, .slice dp dm dc, .slice dq dl de]] w fun r w' => r = .returned (.tuple #[.agg #[.int .i64 v.k, .bool v.b, .int .i64 v.n, .string v.s, .slice v.p 0 v.pc, .slice v.q 0 v.qc], .int .i64 E]) ∧ Below w.heap.size w w' := by
  have HALL : Hid (∀ W, Below w.heap.size w W → Calls Tryz.prog 42 #[.slice (some ⟨kg, ko, none⟩) 2 kc, .agg #[.int .i64 dk, .bool db, .int .i64 dn, .string ds, .slice dp dm dc, .slice dq dl de]] W fun r W' => ∃ q k, r = .returned (.tuple #[.slice q 2 k, .int .i64 0]) ∧ W'.ownsRow W.heap.size 25 6 (.slice q 2 k) 2 LL ∧ Below W.heap.size W W') := hall
  have HSG : Hid (∀ (q cap : Nat) (_ : 2 ≤ cap ∧ cap ≤ maxLen) (w : World) (_ : q < w.heap.size) (_ : ∀ j, j < 12 → w.cell? ⟨q, j, none⟩ = LL[j]?), Calls Tryz.prog 45 #[.agg #[.int .i64 6, .string sg, .int .i64 vk, .bool vb, .int .i64 vn, .string vs, .slice none 0 0, .slice none 0 0, .slice (some ⟨kg, ko, none⟩) 2 kc, .slice np m nc], .slice (some ⟨q, 0, none⟩) 2 cap] w fun r w' => r = .returned (.tuple #[.agg #[.int .i64 v.k, .bool v.b, .int .i64 v.n, .string v.s, .slice v.p 0 v.pc, .slice v.q 0 v.qc], .int .i64 E]) ∧ Below w.heap.size w w') := hsg
  clear hall hsg
  have kk := kids_bin sg c hc0 ha (.int .i64 vk) (.bool vb) (.int .i64 vn) (.string vs) (.slice none 0 0) (.slice none 0 0) (.slice (some ⟨kg, ko, none⟩) 2 kc) (.slice np m nc)
  obtain ⟨w3, hw3⟩ : ∃ u, (((w.alloc (.cells #[.int .i64 6, .string sg, .int .i64 vk, .bool vb, .int .i64 vn, .string vs, .slice none 0 0, .slice none 0 0, .slice (some ⟨kg, ko, none⟩) 2 kc, .slice np m nc] 28)).alloc (.cells #[.int .i64 dk, .bool db, .int .i64 dn, .string ds, .slice dp dm dc, .slice dq dl de] 25)).alloc (.cells #[.int .i64 0, .bool false, .int .i64 0, .string ⟨#[]⟩, .slice none 0 0, .slice none 0 0] 25)) = u := ⟨_, rfl⟩
  obtain ⟨rw30, rw31, rw32, bw3⟩ := alloc3 hw3
  have HWw3 := mkHid hw3
  have aR : Hid (w3.heap[w.heap.size]? = some (.cells #[.int .i64 6, .string sg, .int .i64 vk, .bool vb, .int .i64 vn, .string vs, .slice none 0 0, .slice none 0 0, .slice (some ⟨kg, ko, none⟩) 2 kc, .slice np m nc] 28 (0, 0)) ∧ w3.heap[w.heap.size + 1]? = some (.cells #[.int .i64 dk, .bool db, .int .i64 dn, .string ds, .slice dp dm dc, .slice dq dl de] 25 (0, 0)) ∧ w3.heap[w.heap.size + 1 + 1]? = some (.cells #[.int .i64 0, .bool false, .int .i64 0, .string ⟨#[]⟩, .slice none 0 0, .slice none 0 0] 25 (0, 0)) ∧ Below w.heap.size w w3) := ⟨rw30, rw31, rw32, bw3⟩
  clear hw3 rw31 rw32 bw3
  go_enter Tryz.func21, Tryz.ntmps21
  go_wp2_with (first | rw [HWw3.out] | fail)
  refine any_tail (by kernel_rfl) 6 (by exact Nat.le_of_ble_eq_true rfl) (fun i => i + 10) (mixR [] [.pointer (some ⟨w.heap.size, 8, none⟩), .slice (some ⟨kg, ko, none⟩) 2 kc, .int .i64 2, .agg #[.int .i64 6, .string sg, .int .i64 vk, .bool vb, .int .i64 vn, .string vs, .slice none 0 0, .slice none 0 0, .slice (some ⟨kg, ko, none⟩) 2 kc, .slice np m nc], .int .i64 2, .bool false]) (by kernel_rfl) (by kernel_rfl) (by kernel_rfl) (by kernel_rfl) (mixR_later _ _ (stab_nil)) ?step ?post
  case step =>
    intro iq hiq a W hrest hb hk
    have hp2 : a.eval (.tmp 2) = .pointer (some ⟨w.heap.size, 0, none⟩) := (hrest 2 (by intro iq2 hiq2; (repeat' split) <;> omega)).trans rfl
    have fp2 := ev hp2
    have hx2 : W.heap[w.heap.size]? = some (.cells #[.int .i64 6, .string sg, .int .i64 vk, .bool vb, .int .i64 vn, .string vs, .slice none 0 0, .slice none 0 0, .slice (some ⟨kg, ko, none⟩) 2 kc, .slice np m nc] 28 (0, 0)) := (hb.block _ (lt_of_row rw30)).trans rw30
    clear hrest
    obtain rfl | rfl | rfl | rfl | rfl | rfl : iq = 0 ∨ iq = 1 ∨ iq = 2 ∨ iq = 3 ∨ iq = 4 ∨ iq = 5 := by omega
    · clear hiq
      clear hk
      refine ⟨_, rfl, rfl, rfl, wp_value (v := .pointer (some ⟨w.heap.size, 8, none⟩)) (w' := W) ?_ ⟨_, rfl, Below.refl _ _, rfl⟩⟩
      go_simp
    · clear hiq
      have e0 : a.eval (.tmp 10) = .pointer (some ⟨w.heap.size, 8, none⟩) := hk 0 (mem_of (by kernel_rfl))
      have f0 := ev e0
      have hc8 := cell_of_row W w.heap.size 8 _ _ _ hx2
      clear hk
      refine ⟨_, rfl, rfl, rfl, wp_value (v := .slice (some ⟨kg, ko, none⟩) 2 kc) (w' := W) ?_ ⟨_, rfl, Below.refl _ _, rfl⟩⟩
      go_simp
    · clear hiq
      have e1 : a.eval (.tmp 11) = .slice (some ⟨kg, ko, none⟩) 2 kc := hk 1 (mem_of (by kernel_rfl))
      have f1 := ev e1
      clear hk
      refine ⟨_, rfl, rfl, rfl, wp_value (v := .int .i64 2) (w' := W) ?_ ⟨_, rfl, Below.refl _ _, rfl⟩⟩
      go_simp
    · clear hiq
      have hc0 := cell_of_row W w.heap.size 0 _ _ _ hx2
      have hc1 := cell_of_row W w.heap.size 1 _ _ _ hx2
      have hc2 := cell_of_row W w.heap.size 2 _ _ _ hx2
      have hc3 := cell_of_row W w.heap.size 3 _ _ _ hx2
      have hc4 := cell_of_row W w.heap.size 4 _ _ _ hx2
      have hc5 := cell_of_row W w.heap.size 5 _ _ _ hx2
      have hc6 := cell_of_row W w.heap.size 6 _ _ _ hx2
      have hc7 := cell_of_row W w.heap.size 7 _ _ _ hx2
      have hc8 := cell_of_row W w.heap.size 8 _ _ _ hx2
      have hc9 := cell_of_row W w.heap.size 9 _ _ _ hx2
      clear hk
      refine ⟨_, rfl, rfl, rfl, wp_value (v := .agg #[.int .i64 6, .string sg, .int .i64 vk, .bool vb, .int .i64 vn, .string vs, .slice none 0 0, .slice none 0 0, .slice (some ⟨kg, ko, none⟩) 2 kc, .slice np m nc]) (w' := W) ?_ ⟨_, rfl, Below.refl _ _, rfl⟩⟩
      go_simp
    · clear hiq
      have e3 : a.eval (.tmp 13) = .agg #[.int .i64 6, .string sg, .int .i64 vk, .bool vb, .int .i64 vn, .string vs, .slice none 0 0, .slice none 0 0, .slice (some ⟨kg, ko, none⟩) 2 kc, .slice np m nc] := hk 3 (mem_of (by kernel_rfl))
      have f3 := ev e3
      clear hk
      refine ⟨_, rfl, rfl, rfl, wp_enter (f := 39) (args := #[.agg #[.int .i64 6, .string sg, .int .i64 vk, .bool vb, .int .i64 vn, .string vs, .slice none 0 0, .slice none 0 0, .slice (some ⟨kg, ko, none⟩) 2 kc, .slice np m nc]]) ?_ ((kk W).mono ?_)⟩
      · go_simp
      · rintro e w2 ⟨rfl, hb2⟩
        exact ⟨_, rfl, _, rfl, hb2, rfl⟩
    · clear hiq
      have e2 : a.eval (.tmp 12) = .int .i64 2 := hk 2 (mem_of (by kernel_rfl))
      have f2 := ev e2
      have e4 : a.eval (.tmp 14) = .int .i64 2 := hk 4 (mem_of (by kernel_rfl))
      have f4 := ev e4
      clear hk
      refine ⟨_, rfl, rfl, rfl, wp_value (v := .bool false) (w' := W) ?_ ⟨_, rfl, Below.refl _ _, rfl⟩⟩
      go_simp
  case post =>
    intro V1 W hbW hV
    have v5 : V1 5 = .bool false := hV 5 (by omega)
    have bR : Hid (W.heap[w.heap.size]? = some (.cells #[.int .i64 6, .string sg, .int .i64 vk, .bool vb, .int .i64 vn, .string vs, .slice none 0 0, .slice none 0 0, .slice (some ⟨kg, ko, none⟩) 2 kc, .slice np m nc] 28 (0, 0)) ∧ W.heap[w.heap.size + 1]? = some (.cells #[.int .i64 dk, .bool db, .int .i64 dn, .string ds, .slice dp dm dc, .slice dq dl de] 25 (0, 0)) ∧ W.heap[w.heap.size + 1 + 1]? = some (.cells #[.int .i64 0, .bool false, .int .i64 0, .string ⟨#[]⟩, .slice none 0 0, .slice none 0 0] 25 (0, 0)) ∧ Below w.heap.size w W) := ⟨Below.row hbW aR.out.1, Below.row hbW aR.out.2.1, Below.row hbW aR.out.2.2.1, aR.out.2.2.2.trans (hbW.mono aR.out.2.2.2.size)⟩
    clear hV kk hbW aR rw30
    simp only [putAll, Nat.reduceAdd]
    rw [v5]
    simp only [Act.put, List.setIfInBounds_toArray, List.set_cons_zero, List.set_cons_succ]
    change wpList _ _ _ [] _ _
    have hlt : Hid (w.heap.size < W.heap.size) := lt_of_row bR.out.1
    have kal := HALL.out W bR.out.2.2.2
    have cx0 : W.cell? ⟨w.heap.size, 0, none⟩ = some (.int .i64 6) := cell_of_row W _ 0 _ _ _ bR.out.1
    have cx1 : W.cell? ⟨w.heap.size, 1, none⟩ = some (.string sg) := cell_of_row W _ 1 _ _ _ bR.out.1
    have cx8 : W.cell? ⟨w.heap.size, 8, none⟩ = some (.slice (some ⟨kg, ko, none⟩) 2 kc) := cell_of_row W _ 8 _ _ _ bR.out.1
    have cxd0 : W.cell? ⟨w.heap.size + 1, 0, none⟩ = some (.int .i64 dk) := cell_of_row W _ 0 _ _ _ bR.out.2.1
    have cxd1 : W.cell? ⟨w.heap.size + 1, 1, none⟩ = some (.bool db) := cell_of_row W _ 1 _ _ _ bR.out.2.1
    have cxd2 : W.cell? ⟨w.heap.size + 1, 2, none⟩ = some (.int .i64 dn) := cell_of_row W _ 2 _ _ _ bR.out.2.1
    have cxd3 : W.cell? ⟨w.heap.size + 1, 3, none⟩ = some (.string ds) := cell_of_row W _ 3 _ _ _ bR.out.2.1
    have cxd4 : W.cell? ⟨w.heap.size + 1, 4, none⟩ = some (.slice dp dm dc) := cell_of_row W _ 4 _ _ _ bR.out.2.1
    have cxd5 : W.cell? ⟨w.heap.size + 1, 5, none⟩ = some (.slice dq dl de) := cell_of_row W _ 5 _ _ _ bR.out.2.1
    clear HALL
    go_wp2_with fail
    refine (ha _).mono ?_
    rintro r w4 ⟨rfl, rfl⟩
    go_wp2_with fail
    refine kal.mono ?_
    rintro r w5 ⟨q, k, rfl, hown, hb5⟩
    obtain ⟨g, rfl, hcap, hgl⟩ : ∃ g, q = some ⟨g, 0, none⟩ ∧ (2 ≤ k ∧ k ≤ maxLen) ∧ g < w5.heap.size := by
      rcases hown.2 with ⟨_, h⟩ | ⟨g, cap, cur, h1, h2, h3, h4, h5, _⟩
      · cases h
      · injection h1 with h1 _ h7
        exact ⟨g, h1, by omega, lt_of_row h3⟩
    have ks := HSG.out g k hcap w5 hgl (fun j hj => hown.cellAt j hj)
    have cR : Hid (w5.heap[w.heap.size]? = some (.cells #[.int .i64 6, .string sg, .int .i64 vk, .bool vb, .int .i64 vn, .string vs, .slice none 0 0, .slice none 0 0, .slice (some ⟨kg, ko, none⟩) 2 kc, .slice np m nc] 28 (0, 0)) ∧ w5.heap[w.heap.size + 1]? = some (.cells #[.int .i64 dk, .bool db, .int .i64 dn, .string ds, .slice dp dm dc, .slice dq dl de] 25 (0, 0)) ∧ w5.heap[w.heap.size + 1 + 1]? = some (.cells #[.int .i64 0, .bool false, .int .i64 0, .string ⟨#[]⟩, .slice none 0 0, .slice none 0 0] 25 (0, 0)) ∧ Below w.heap.size w w5) := ⟨Below.row hb5 bR.out.1, Below.row hb5 bR.out.2.1, Below.row hb5 bR.out.2.2.1, bR.out.2.2.2.trans (hb5.mono bR.out.2.2.2.size)⟩
    have dx0 : w5.cell? ⟨w.heap.size, 0, none⟩ = some (.int .i64 6) := cell_of_row w5 _ 0 _ _ _ cR.out.1
    have dx1 : w5.cell? ⟨w.heap.size, 1, none⟩ = some (.string sg) := cell_of_row w5 _ 1 _ _ _ cR.out.1
    have dx2 : w5.cell? ⟨w.heap.size, 2, none⟩ = some (.int .i64 vk) := cell_of_row w5 _ 2 _ _ _ cR.out.1
    have dx3 : w5.cell? ⟨w.heap.size, 3, none⟩ = some (.bool vb) := cell_of_row w5 _ 3 _ _ _ cR.out.1
    have dx4 : w5.cell? ⟨w.heap.size, 4, none⟩ = some (.int .i64 vn) := cell_of_row w5 _ 4 _ _ _ cR.out.1
    have dx5 : w5.cell? ⟨w.heap.size, 5, none⟩ = some (.string vs) := cell_of_row w5 _ 5 _ _ _ cR.out.1
    have dx6 : w5.cell? ⟨w.heap.size, 6, none⟩ = some (.slice none 0 0) := cell_of_row w5 _ 6 _ _ _ cR.out.1
    have dx7 : w5.cell? ⟨w.heap.size, 7, none⟩ = some (.slice none 0 0) := cell_of_row w5 _ 7 _ _ _ cR.out.1
    have dx8 : w5.cell? ⟨w.heap.size, 8, none⟩ = some (.slice (some ⟨kg, ko, none⟩) 2 kc) := cell_of_row w5 _ 8 _ _ _ cR.out.1
    have dx9 : w5.cell? ⟨w.heap.size, 9, none⟩ = some (.slice np m nc) := cell_of_row w5 _ 9 _ _ _ cR.out.1
    clear bR hb5 kal cx0 cx1 cx8 cxd0 cxd1 cxd2 cxd3 cxd4 cxd5 HSG hown
    go_wp2_with fail
    refine ks.mono ?_
    rintro r w6 ⟨rfl, hb6⟩
    have dR : Hid (w6.heap[w.heap.size]? = some (.cells #[.int .i64 6, .string sg, .int .i64 vk, .bool vb, .int .i64 vn, .string vs, .slice none 0 0, .slice none 0 0, .slice (some ⟨kg, ko, none⟩) 2 kc, .slice np m nc] 28 (0, 0)) ∧ w6.heap[w.heap.size + 1]? = some (.cells #[.int .i64 dk, .bool db, .int .i64 dn, .string ds, .slice dp dm dc, .slice dq dl de] 25 (0, 0)) ∧ w6.heap[w.heap.size + 1 + 1]? = some (.cells #[.int .i64 0, .bool false, .int .i64 0, .string ⟨#[]⟩, .slice none 0 0, .slice none 0 0] 25 (0, 0)) ∧ Below w.heap.size w w6) := ⟨Below.row hb6 cR.out.1, Below.row hb6 cR.out.2.1, Below.row hb6 cR.out.2.2.1, cR.out.2.2.2.trans (hb6.mono cR.out.2.2.2.size)⟩
    clear ks
    go_wp2_with (first | (refine wpList_put rfl 25 (.tmp 4) (.tmp 71) rfl rfl rfl rfl dR.out.2.2.1 rfl info25 (by simp [Value.oneCell']) ?_) | fail)
    exact bodyPost_ret (results_row_tmp Tryz.results21 _ _ (w.heap.size + 1 + 1) 25 _ (0, 0) _ rfl (put_row _ dR.out.2.2.1 rfl) Tryz.underlying25 rfl info25) rfl ⟨rfl, put_below dR.out.2.2.2 _ (by omega) _⟩
set_option maxRecDepth 100000 in
set_option maxHeartbeats 4000000 in
theorem reckon_sign_fails (sg : ByteArray) (c : Int) (hc0 : (c == 0) = false) (hc1 : (c == 1) = false) (ha : ∀ W : World, Calls Tryz.prog 40 #[.string sg] W fun r w' => r = .returned (.int .i64 c) ∧ w' = W) (vk : Int) (vb : Bool) (vn : Int) (vs : ByteArray) (kg ko kc : Nat) (np : Option Addr) (m nc : Nat) (E : Int) (hE : (E == 0) = false) (dk : Int) (db : Bool) (dn : Int) (ds : ByteArray) (dp : Option Addr) (dm dc : Nat) (dq : Option Addr) (dl de : Nat) (w : World) (hall : ∀ W, Below w.heap.size w W → Calls Tryz.prog 42 #[.slice (some ⟨kg, ko, none⟩) 2 kc, .agg #[.int .i64 dk, .bool db, .int .i64 dn, .string ds, .slice dp dm dc, .slice dq dl de]] W fun r W' => r = .returned (.tuple #[.slice none 0 0, .int .i64 E]) ∧ Below W.heap.size W W') :
    Calls Tryz.prog 21 #[.agg #[.int .i64 6, .string sg, .int .i64 vk, .bool vb, .int .i64 vn, .string vs, .slice none 0 0, .slice none 0 0, .slice (some ⟨kg, ko, none⟩) 2 kc, .slice np m nc], .agg #[.int .i64 dk, .bool db, .int .i64 dn, .string ds, .slice dp dm dc, .slice dq dl de]] w fun r w' => r = .returned (.tuple #[.agg #[.int .i64 0, .bool false, .int .i64 0, .string ⟨#[]⟩, .slice none 0 0, .slice none 0 0], .int .i64 E]) ∧ Below w.heap.size w w' := by
  have HALL : Hid (∀ W, Below w.heap.size w W → Calls Tryz.prog 42 #[.slice (some ⟨kg, ko, none⟩) 2 kc, .agg #[.int .i64 dk, .bool db, .int .i64 dn, .string ds, .slice dp dm dc, .slice dq dl de]] W fun r W' => r = .returned (.tuple #[.slice none 0 0, .int .i64 E]) ∧ Below W.heap.size W W') := hall
  clear hall
  have kk := kids_bin sg c hc0 ha (.int .i64 vk) (.bool vb) (.int .i64 vn) (.string vs) (.slice none 0 0) (.slice none 0 0) (.slice (some ⟨kg, ko, none⟩) 2 kc) (.slice np m nc)
  obtain ⟨w3, hw3⟩ : ∃ u, (((w.alloc (.cells #[.int .i64 6, .string sg, .int .i64 vk, .bool vb, .int .i64 vn, .string vs, .slice none 0 0, .slice none 0 0, .slice (some ⟨kg, ko, none⟩) 2 kc, .slice np m nc] 28)).alloc (.cells #[.int .i64 dk, .bool db, .int .i64 dn, .string ds, .slice dp dm dc, .slice dq dl de] 25)).alloc (.cells #[.int .i64 0, .bool false, .int .i64 0, .string ⟨#[]⟩, .slice none 0 0, .slice none 0 0] 25)) = u := ⟨_, rfl⟩
  obtain ⟨rw30, rw31, rw32, bw3⟩ := alloc3 hw3
  have HWw3 := mkHid hw3
  have aR : Hid (w3.heap[w.heap.size]? = some (.cells #[.int .i64 6, .string sg, .int .i64 vk, .bool vb, .int .i64 vn, .string vs, .slice none 0 0, .slice none 0 0, .slice (some ⟨kg, ko, none⟩) 2 kc, .slice np m nc] 28 (0, 0)) ∧ w3.heap[w.heap.size + 1]? = some (.cells #[.int .i64 dk, .bool db, .int .i64 dn, .string ds, .slice dp dm dc, .slice dq dl de] 25 (0, 0)) ∧ w3.heap[w.heap.size + 1 + 1]? = some (.cells #[.int .i64 0, .bool false, .int .i64 0, .string ⟨#[]⟩, .slice none 0 0, .slice none 0 0] 25 (0, 0)) ∧ Below w.heap.size w w3) := ⟨rw30, rw31, rw32, bw3⟩
  clear hw3 rw31 rw32 bw3
  go_enter Tryz.func21, Tryz.ntmps21
  go_wp2_with (first | rw [HWw3.out] | fail)
  refine any_tail (by kernel_rfl) 6 (by exact Nat.le_of_ble_eq_true rfl) (fun i => i + 10) (mixR [] [.pointer (some ⟨w.heap.size, 8, none⟩), .slice (some ⟨kg, ko, none⟩) 2 kc, .int .i64 2, .agg #[.int .i64 6, .string sg, .int .i64 vk, .bool vb, .int .i64 vn, .string vs, .slice none 0 0, .slice none 0 0, .slice (some ⟨kg, ko, none⟩) 2 kc, .slice np m nc], .int .i64 2, .bool false]) (by kernel_rfl) (by kernel_rfl) (by kernel_rfl) (by kernel_rfl) (mixR_later _ _ (stab_nil)) ?step ?post
  case step =>
    intro iq hiq a W hrest hb hk
    have hp2 : a.eval (.tmp 2) = .pointer (some ⟨w.heap.size, 0, none⟩) := (hrest 2 (by intro iq2 hiq2; (repeat' split) <;> omega)).trans rfl
    have fp2 := ev hp2
    have hx2 : W.heap[w.heap.size]? = some (.cells #[.int .i64 6, .string sg, .int .i64 vk, .bool vb, .int .i64 vn, .string vs, .slice none 0 0, .slice none 0 0, .slice (some ⟨kg, ko, none⟩) 2 kc, .slice np m nc] 28 (0, 0)) := (hb.block _ (lt_of_row rw30)).trans rw30
    clear hrest
    obtain rfl | rfl | rfl | rfl | rfl | rfl : iq = 0 ∨ iq = 1 ∨ iq = 2 ∨ iq = 3 ∨ iq = 4 ∨ iq = 5 := by omega
    · clear hiq
      clear hk
      refine ⟨_, rfl, rfl, rfl, wp_value (v := .pointer (some ⟨w.heap.size, 8, none⟩)) (w' := W) ?_ ⟨_, rfl, Below.refl _ _, rfl⟩⟩
      go_simp
    · clear hiq
      have e0 : a.eval (.tmp 10) = .pointer (some ⟨w.heap.size, 8, none⟩) := hk 0 (mem_of (by kernel_rfl))
      have f0 := ev e0
      have hc8 := cell_of_row W w.heap.size 8 _ _ _ hx2
      clear hk
      refine ⟨_, rfl, rfl, rfl, wp_value (v := .slice (some ⟨kg, ko, none⟩) 2 kc) (w' := W) ?_ ⟨_, rfl, Below.refl _ _, rfl⟩⟩
      go_simp
    · clear hiq
      have e1 : a.eval (.tmp 11) = .slice (some ⟨kg, ko, none⟩) 2 kc := hk 1 (mem_of (by kernel_rfl))
      have f1 := ev e1
      clear hk
      refine ⟨_, rfl, rfl, rfl, wp_value (v := .int .i64 2) (w' := W) ?_ ⟨_, rfl, Below.refl _ _, rfl⟩⟩
      go_simp
    · clear hiq
      have hc0 := cell_of_row W w.heap.size 0 _ _ _ hx2
      have hc1 := cell_of_row W w.heap.size 1 _ _ _ hx2
      have hc2 := cell_of_row W w.heap.size 2 _ _ _ hx2
      have hc3 := cell_of_row W w.heap.size 3 _ _ _ hx2
      have hc4 := cell_of_row W w.heap.size 4 _ _ _ hx2
      have hc5 := cell_of_row W w.heap.size 5 _ _ _ hx2
      have hc6 := cell_of_row W w.heap.size 6 _ _ _ hx2
      have hc7 := cell_of_row W w.heap.size 7 _ _ _ hx2
      have hc8 := cell_of_row W w.heap.size 8 _ _ _ hx2
      have hc9 := cell_of_row W w.heap.size 9 _ _ _ hx2
      clear hk
      refine ⟨_, rfl, rfl, rfl, wp_value (v := .agg #[.int .i64 6, .string sg, .int .i64 vk, .bool vb, .int .i64 vn, .string vs, .slice none 0 0, .slice none 0 0, .slice (some ⟨kg, ko, none⟩) 2 kc, .slice np m nc]) (w' := W) ?_ ⟨_, rfl, Below.refl _ _, rfl⟩⟩
      go_simp
    · clear hiq
      have e3 : a.eval (.tmp 13) = .agg #[.int .i64 6, .string sg, .int .i64 vk, .bool vb, .int .i64 vn, .string vs, .slice none 0 0, .slice none 0 0, .slice (some ⟨kg, ko, none⟩) 2 kc, .slice np m nc] := hk 3 (mem_of (by kernel_rfl))
      have f3 := ev e3
      clear hk
      refine ⟨_, rfl, rfl, rfl, wp_enter (f := 39) (args := #[.agg #[.int .i64 6, .string sg, .int .i64 vk, .bool vb, .int .i64 vn, .string vs, .slice none 0 0, .slice none 0 0, .slice (some ⟨kg, ko, none⟩) 2 kc, .slice np m nc]]) ?_ ((kk W).mono ?_)⟩
      · go_simp
      · rintro e w2 ⟨rfl, hb2⟩
        exact ⟨_, rfl, _, rfl, hb2, rfl⟩
    · clear hiq
      have e2 : a.eval (.tmp 12) = .int .i64 2 := hk 2 (mem_of (by kernel_rfl))
      have f2 := ev e2
      have e4 : a.eval (.tmp 14) = .int .i64 2 := hk 4 (mem_of (by kernel_rfl))
      have f4 := ev e4
      clear hk
      refine ⟨_, rfl, rfl, rfl, wp_value (v := .bool false) (w' := W) ?_ ⟨_, rfl, Below.refl _ _, rfl⟩⟩
      go_simp
  case post =>
    intro V1 W hbW hV
    have v5 : V1 5 = .bool false := hV 5 (by omega)
    have bR : Hid (W.heap[w.heap.size]? = some (.cells #[.int .i64 6, .string sg, .int .i64 vk, .bool vb, .int .i64 vn, .string vs, .slice none 0 0, .slice none 0 0, .slice (some ⟨kg, ko, none⟩) 2 kc, .slice np m nc] 28 (0, 0)) ∧ W.heap[w.heap.size + 1]? = some (.cells #[.int .i64 dk, .bool db, .int .i64 dn, .string ds, .slice dp dm dc, .slice dq dl de] 25 (0, 0)) ∧ W.heap[w.heap.size + 1 + 1]? = some (.cells #[.int .i64 0, .bool false, .int .i64 0, .string ⟨#[]⟩, .slice none 0 0, .slice none 0 0] 25 (0, 0)) ∧ Below w.heap.size w W) := ⟨Below.row hbW aR.out.1, Below.row hbW aR.out.2.1, Below.row hbW aR.out.2.2.1, aR.out.2.2.2.trans (hbW.mono aR.out.2.2.2.size)⟩
    clear hV kk hbW aR rw30
    simp only [putAll, Nat.reduceAdd]
    rw [v5]
    simp only [Act.put, List.setIfInBounds_toArray, List.set_cons_zero, List.set_cons_succ]
    change wpList _ _ _ [] _ _
    have hlt : Hid (w.heap.size < W.heap.size) := lt_of_row bR.out.1
    have kal := HALL.out W bR.out.2.2.2
    have cx0 : W.cell? ⟨w.heap.size, 0, none⟩ = some (.int .i64 6) := cell_of_row W _ 0 _ _ _ bR.out.1
    have cx1 : W.cell? ⟨w.heap.size, 1, none⟩ = some (.string sg) := cell_of_row W _ 1 _ _ _ bR.out.1
    have cx8 : W.cell? ⟨w.heap.size, 8, none⟩ = some (.slice (some ⟨kg, ko, none⟩) 2 kc) := cell_of_row W _ 8 _ _ _ bR.out.1
    have cxd0 : W.cell? ⟨w.heap.size + 1, 0, none⟩ = some (.int .i64 dk) := cell_of_row W _ 0 _ _ _ bR.out.2.1
    have cxd1 : W.cell? ⟨w.heap.size + 1, 1, none⟩ = some (.bool db) := cell_of_row W _ 1 _ _ _ bR.out.2.1
    have cxd2 : W.cell? ⟨w.heap.size + 1, 2, none⟩ = some (.int .i64 dn) := cell_of_row W _ 2 _ _ _ bR.out.2.1
    have cxd3 : W.cell? ⟨w.heap.size + 1, 3, none⟩ = some (.string ds) := cell_of_row W _ 3 _ _ _ bR.out.2.1
    have cxd4 : W.cell? ⟨w.heap.size + 1, 4, none⟩ = some (.slice dp dm dc) := cell_of_row W _ 4 _ _ _ bR.out.2.1
    have cxd5 : W.cell? ⟨w.heap.size + 1, 5, none⟩ = some (.slice dq dl de) := cell_of_row W _ 5 _ _ _ bR.out.2.1
    clear HALL
    go_wp2_with fail
    refine (ha _).mono ?_
    rintro r w4 ⟨rfl, rfl⟩
    go_wp2_with fail
    refine kal.mono ?_
    rintro r w5 ⟨rfl, hb5⟩
    have cR : Hid (w5.heap[w.heap.size]? = some (.cells #[.int .i64 6, .string sg, .int .i64 vk, .bool vb, .int .i64 vn, .string vs, .slice none 0 0, .slice none 0 0, .slice (some ⟨kg, ko, none⟩) 2 kc, .slice np m nc] 28 (0, 0)) ∧ w5.heap[w.heap.size + 1]? = some (.cells #[.int .i64 dk, .bool db, .int .i64 dn, .string ds, .slice dp dm dc, .slice dq dl de] 25 (0, 0)) ∧ w5.heap[w.heap.size + 1 + 1]? = some (.cells #[.int .i64 0, .bool false, .int .i64 0, .string ⟨#[]⟩, .slice none 0 0, .slice none 0 0] 25 (0, 0)) ∧ Below w.heap.size w w5) := ⟨Below.row hb5 bR.out.1, Below.row hb5 bR.out.2.1, Below.row hb5 bR.out.2.2.1, bR.out.2.2.2.trans (hb5.mono bR.out.2.2.2.size)⟩
    clear bR hb5 kal cx0 cx1 cx8 cxd0 cxd1 cxd2 cxd3 cxd4 cxd5
    go_wp2_with (first | (refine wpList_put rfl 25 (.tmp 4) (.tmp 44) rfl rfl rfl rfl cR.out.2.2.1 rfl info25 (by simp [Value.oneCell']) ?_) | fail)
    exact bodyPost_ret (results_row_tmp Tryz.results21 _ _ (w.heap.size + 1 + 1) 25 _ (0, 0) _ rfl (put_row _ cR.out.2.2.1 rfl) Tryz.underlying25 rfl info25) rfl ⟨rfl, put_below cR.out.2.2.2 _ (by omega) _⟩
set_option maxRecDepth 100000 in
set_option maxHeartbeats 4000000 in
theorem all_fails {g o c n : Nat} (h0 : 0 < n) (_hc : n ≤ c ∧ c ≤ maxLen) (pa : XR) (y : Lf) (e : Int) (he : (e == 0) = false) (dk : Int) (db : Bool) (dn : Int) (ds : ByteArray) (dp : Option Addr) (dm dc : Nat) (dq : Option Addr) (dl de : Nat) (w : World) (hg : g < w.heap.size) (hk : At10 w g o pa)
    (hcall : ∀ W, Below w.heap.size w W → Calls Tryz.prog 21 #[.agg #[.int .i64 pa.k, .string pa.s, .int .i64 pa.vk, .bool pa.vb, .int .i64 pa.vn, .string pa.vs, .slice none 0 0, .slice none 0 0, .slice pa.kp pa.n pa.kc, .slice pa.np pa.m pa.nc], .agg #[.int .i64 dk, .bool db, .int .i64 dn, .string ds, .slice dp dm dc, .slice dq dl de]] W fun r W' => r = .returned (.tuple #[.agg #[.int .i64 y.k, .bool y.b, .int .i64 y.n, .string y.s, .slice y.p 0 y.pc, .slice y.q 0 y.qc], .int .i64 e]) ∧ Below W.heap.size W W') :
    Calls Tryz.prog 42 #[.slice (some ⟨g, o, none⟩) n c, .agg #[.int .i64 dk, .bool db, .int .i64 dn, .string ds, .slice dp dm dc, .slice dq dl de]] w fun r w' => r = .returned (.tuple #[.slice none 0 0, .int .i64 e]) ∧ Below w.heap.size w w' := by
  obtain ⟨wb, hwb⟩ : ∃ wb, (w.alloc (.cells #[.int .i64 dk, .bool db, .int .i64 dn, .string ds, .slice dp dm dc, .slice dq dl de] 25)) = wb := ⟨_, rfl⟩
  have bb : Below w.heap.size w wb := by rw [← hwb]; exact (Below.refl _ w).alloc (Nat.le_refl _) _
  have rb : wb.heap[w.heap.size]? = some (.cells #[.int .i64 dk, .bool db, .int .i64 dn, .string ds, .slice dp dm dc, .slice dq dl de] 25 (0, 0)) := by rw [← hwb]; exact heap_alloc_new _ _
  have HB : Hid ((w.alloc (.cells #[.int .i64 dk, .bool db, .int .i64 dn, .string ds, .slice dp dm dc, .slice dq dl de] 25)) = wb) := hwb
  obtain ⟨wc, hwc⟩ : ∃ wc, wb.alloc (.cells #[.int .i64 pa.k, .string pa.s, .int .i64 pa.vk, .bool pa.vb, .int .i64 pa.vn, .string pa.vs, .slice none 0 0, .slice none 0 0, .slice pa.kp pa.n pa.kc, .slice pa.np pa.m pa.nc] 28) = wc := ⟨_, rfl⟩
  have bc : Below wb.heap.size wb wc := by rw [← hwc]; exact (Below.refl _ wb).alloc (Nat.le_refl _) _
  have rx : wc.heap[wb.heap.size]? = some (.cells #[.int .i64 pa.k, .string pa.s, .int .i64 pa.vk, .bool pa.vb, .int .i64 pa.vn, .string pa.vs, .slice none 0 0, .slice none 0 0, .slice pa.kp pa.n pa.kc, .slice pa.np pa.m pa.nc] 28 (0, 0)) := by rw [← hwc]; exact heap_alloc_new _ _
  have HC : Hid (wb.alloc (.cells #[.int .i64 pa.k, .string pa.s, .int .i64 pa.vk, .bool pa.vb, .int .i64 pa.vn, .string pa.vs, .slice none 0 0, .slice none 0 0, .slice pa.kp pa.n pa.kc, .slice pa.np pa.m pa.nc] 28) = wc) := hwc
  have rd := Below.row bc rb
  have kc := hcall wc (bb.trans (bc.mono bb.size))
  have ex0 : wc.cell? ⟨wb.heap.size, 0, none⟩ = some (.int .i64 pa.k) := cell_of_row wc _ 0 _ _ _ rx
  have ex1 : wc.cell? ⟨wb.heap.size, 1, none⟩ = some (.string pa.s) := cell_of_row wc _ 1 _ _ _ rx
  have ex2 : wc.cell? ⟨wb.heap.size, 2, none⟩ = some (.int .i64 pa.vk) := cell_of_row wc _ 2 _ _ _ rx
  have ex3 : wc.cell? ⟨wb.heap.size, 3, none⟩ = some (.bool pa.vb) := cell_of_row wc _ 3 _ _ _ rx
  have ex4 : wc.cell? ⟨wb.heap.size, 4, none⟩ = some (.int .i64 pa.vn) := cell_of_row wc _ 4 _ _ _ rx
  have ex5 : wc.cell? ⟨wb.heap.size, 5, none⟩ = some (.string pa.vs) := cell_of_row wc _ 5 _ _ _ rx
  have ex6 : wc.cell? ⟨wb.heap.size, 6, none⟩ = some (.slice none 0 0) := cell_of_row wc _ 6 _ _ _ rx
  have ex7 : wc.cell? ⟨wb.heap.size, 7, none⟩ = some (.slice none 0 0) := cell_of_row wc _ 7 _ _ _ rx
  have ex8 : wc.cell? ⟨wb.heap.size, 8, none⟩ = some (.slice pa.kp pa.n pa.kc) := cell_of_row wc _ 8 _ _ _ rx
  have ex9 : wc.cell? ⟨wb.heap.size, 9, none⟩ = some (.slice pa.np pa.m pa.nc) := cell_of_row wc _ 9 _ _ _ rx
  have ed0 : wc.cell? ⟨w.heap.size, 0, none⟩ = some (.int .i64 dk) := cell_of_row wc _ 0 _ _ _ rd
  have ed1 : wc.cell? ⟨w.heap.size, 1, none⟩ = some (.bool db) := cell_of_row wc _ 1 _ _ _ rd
  have ed2 : wc.cell? ⟨w.heap.size, 2, none⟩ = some (.int .i64 dn) := cell_of_row wc _ 2 _ _ _ rd
  have ed3 : wc.cell? ⟨w.heap.size, 3, none⟩ = some (.string ds) := cell_of_row wc _ 3 _ _ _ rd
  have ed4 : wc.cell? ⟨w.heap.size, 4, none⟩ = some (.slice dp dm dc) := cell_of_row wc _ 4 _ _ _ rd
  have ed5 : wc.cell? ⟨w.heap.size, 5, none⟩ = some (.slice dq dl de) := cell_of_row wc _ 5 _ _ _ rd
  have e0 : wb.cell? ⟨g, o, none⟩ = some (.int .i64 pa.k) := (bb.cell (p := ⟨g, o, none⟩) hg).trans (hk 0 (by decide))
  have e1 : wb.cell? ⟨g, o + 1, none⟩ = some (.string pa.s) := (bb.cell (p := ⟨g, o + 1, none⟩) hg).trans (hk 1 (by decide))
  have e2 : wb.cell? ⟨g, o + 2, none⟩ = some (.int .i64 pa.vk) := (bb.cell (p := ⟨g, o + 2, none⟩) hg).trans (hk 2 (by decide))
  have e3 : wb.cell? ⟨g, o + 3, none⟩ = some (.bool pa.vb) := (bb.cell (p := ⟨g, o + 3, none⟩) hg).trans (hk 3 (by decide))
  have e4 : wb.cell? ⟨g, o + 4, none⟩ = some (.int .i64 pa.vn) := (bb.cell (p := ⟨g, o + 4, none⟩) hg).trans (hk 4 (by decide))
  have e5 : wb.cell? ⟨g, o + 5, none⟩ = some (.string pa.vs) := (bb.cell (p := ⟨g, o + 5, none⟩) hg).trans (hk 5 (by decide))
  have e6 : wb.cell? ⟨g, o + 6, none⟩ = some (.slice none 0 0) := (bb.cell (p := ⟨g, o + 6, none⟩) hg).trans (hk 6 (by decide))
  have e7 : wb.cell? ⟨g, o + 7, none⟩ = some (.slice none 0 0) := (bb.cell (p := ⟨g, o + 7, none⟩) hg).trans (hk 7 (by decide))
  have e8 : wb.cell? ⟨g, o + 8, none⟩ = some (.slice pa.kp pa.n pa.kc) := (bb.cell (p := ⟨g, o + 8, none⟩) hg).trans (hk 8 (by decide))
  have e9 : wb.cell? ⟨g, o + 9, none⟩ = some (.slice pa.np pa.m pa.nc) := (bb.cell (p := ⟨g, o + 9, none⟩) hg).trans (hk 9 (by decide))
  have H2 : Hid (Below w.heap.size w wc) := bb.trans (bc.mono bb.size)
  have hn : (0 : Int) < (n : Int) := by omega
  clear hwb hwc bb bc rb rx rd hcall hk
  go_enter Tryz.func42, Tryz.ntmps42
  go_wp2_with (first | rw [HB.out] | fail)
  go_loopw [13] (fun v13 wr => v13 = .int .i64 0 ∧ wr = wb) (fun _ _ => 0)
  case atStart => exact ⟨rfl, rfl⟩
  case round =>
    obtain ⟨rfl, rfl⟩ := hrel
    go_wp2_with (first | rw [HC.out] | fail)
    refine kc.mono ?_
    rintro r w4 ⟨rfl, hb4⟩
    have H4 : Hid (Below w.heap.size w w4) := H2.out.trans (hb4.mono H2.out.size)
    obtain ⟨w5, hw5⟩ : ∃ w5, w4.alloc (.cells #[.int .i64 y.k, .bool y.b, .int .i64 y.n, .string y.s, .slice y.p 0 y.pc, .slice y.q 0 y.qc] 25) = w5 := ⟨_, rfl⟩
    have HW5 : Hid (w4.alloc (.cells #[.int .i64 y.k, .bool y.b, .int .i64 y.n, .string y.s, .slice y.p 0 y.pc, .slice y.q 0 y.qc] 25) = w5) := hw5
    have H5 : Hid (Below w.heap.size w w5) := by rw [← hw5]; exact H4.out.alloc H4.out.size _
    clear hw5 hb4 H4 kc
    go_wp2_with (first | rw [HW5.out] | fail)
    go_ret2
    exact ⟨rfl, H5.out⟩
end Go.Proofs.YtnnclhmhbmbkfaaGreatDoor
namespace Go.Proofs.YtnnclhmhbmbkfaaGreatDoor
open Go.RowKit Go.Shelf
attribute [local go_sem] Oper.semAt_some
set_option maxRecDepth 100000 in
theorem nan_two (w : World) : Calls Tryz.prog 124 #[.int .i64 2] w fun r w' => r = .returned (.bool false) ∧ w' = w := by
  go_enter Tryz.func124, Tryz.ntmps124
  go_wp2
  go_ret
  exact ⟨rfl, rfl⟩
set_option maxRecDepth 100000 in
theorem cmp_two (w : World) : Calls Tryz.prog 101 #[.int .i64 2, .int .i64 2] w fun r w' => r = .returned (.int .i64 0) ∧ w' = w := by
  have k := nan_two
  go_enter Tryz.func101, Tryz.ntmps101
  go_wp2_with fail
  refine (k _).mono ?_
  rintro r w1 ⟨rfl, rfl⟩
  go_wp2_with fail
  refine (k _).mono ?_
  rintro r w2 ⟨rfl, rfl⟩
  go_wp2
  go_ret
  exact ⟨rfl, rfl⟩
set_option maxRecDepth 100000 in
set_option maxHeartbeats 2000000 in
theorem compare_two (w : World) : Calls Tryz.prog 69 #[.agg #[.int .i64 2, .bool false, .int .i64 2, .string ⟨#[]⟩, .slice none 0 0, .slice none 0 0], .agg #[.int .i64 2, .bool false, .int .i64 2, .string ⟨#[]⟩, .slice none 0 0, .slice none 0 0]] w fun r w' => r = .returned (.int .i64 0) ∧ Below w.heap.size w w' := by
  have k := cmp_two
  go_enter Tryz.func69, Tryz.ntmps69
  go_wp2_with fail
  refine (k _).mono ?_
  rintro r w1 ⟨rfl, rfl⟩
  go_wp2
  go_ret
  exact ⟨rfl, ((Below.refl _ w).alloc (Nat.le_refl _) _).alloc (by simp) _⟩
set_option maxRecDepth 100000 in
theorem ordered_eq (w : World) : Calls Tryz.prog 68 #[.string ⟨#[61]⟩, .int .i64 0] w fun r w' => r = .returned (.bool true) ∧ w' = w := by
  go_enter Tryz.func68, Tryz.ntmps68
  go_wp2
  go_ret
  exact ⟨rfl, rfl⟩
set_option maxRecDepth 100000 in
set_option maxHeartbeats 4000000 in
theorem signed_plus (vk : Int) (vb : Bool) (vn : Int) (vs : ByteArray) (kp : Option Addr) (kc : Nat) (np : Option Addr) (m nc : Nat) (q cap : Nat) (n : Int) (ip : Option Addr) (ic : Nat) (jp : Option Addr) (jc : Nat) (v : Lf) (E : Int) (kn : ∀ W : World, Calls Tryz.prog 67 #[.string ⟨#[43]⟩, .agg #[.int .i64 2, .bool false, .int .i64 n, .string ⟨#[]⟩, .slice ip 0 ic, .slice jp 0 jc], .agg #[.int .i64 2, .bool false, .int .i64 1, .string ⟨#[]⟩, .slice none 0 0, .slice none 0 0]] W fun r w' => r = .returned (.tuple #[.agg #[.int .i64 v.k, .bool v.b, .int .i64 v.n, .string v.s, .slice v.p 0 v.pc, .slice v.q 0 v.qc], .int .i64 E]) ∧ Below W.heap.size W w') (_hc : 2 ≤ cap ∧ cap ≤ maxLen) (w : World) (hq : q < w.heap.size) (hy : ∀ j, j < 12 → w.cell? ⟨q, j, none⟩ = ((ipL n ip ic jp jc).cs ++ (inL 1).cs)[j]?) :
    Calls Tryz.prog 45 #[.agg #[.int .i64 6, .string ⟨#[43]⟩, .int .i64 vk, .bool vb, .int .i64 vn, .string vs, .slice none 0 0, .slice none 0 0, .slice kp 2 kc, .slice np m nc], .slice (some ⟨q, 0, none⟩) 2 cap] w fun r w' => r = .returned (.tuple #[.agg #[.int .i64 v.k, .bool v.b, .int .i64 v.n, .string v.s, .slice v.p 0 v.pc, .slice v.q 0 v.qc], .int .i64 E]) ∧ Below w.heap.size w w' := by
  obtain ⟨w3, hw3⟩ : ∃ u, ((w.alloc (.cells #[.int .i64 6, .string ⟨#[43]⟩, .int .i64 vk, .bool vb, .int .i64 vn, .string vs, .slice none 0 0, .slice none 0 0, .slice kp 2 kc, .slice np m nc] 28)).alloc (.cells #[.int .i64 0, .bool false, .int .i64 0, .string ⟨#[]⟩, .slice none 0 0, .slice none 0 0] 25)) = u := ⟨_, rfl⟩
  obtain ⟨rw30, rw31, bw3⟩ := alloc2 hw3
  have HWw3 := mkHid hw3
  have cx0 : w3.cell? ⟨w.heap.size, 0, none⟩ = some (.int .i64 6) := cell_of_row w3 _ 0 _ _ _ rw30
  have cx1 : w3.cell? ⟨w.heap.size, 1, none⟩ = some (.string ⟨#[43]⟩) := cell_of_row w3 _ 1 _ _ _ rw30
  have cy0 : w3.cell? ⟨q, 0, none⟩ = some (.int .i64 2) := (bw3.cell (p := ⟨q, 0, none⟩) hq).trans (hy 0 (by decide))
  have cy1 : w3.cell? ⟨q, 1, none⟩ = some (.bool false) := (bw3.cell (p := ⟨q, 1, none⟩) hq).trans (hy 1 (by decide))
  have cy2 : w3.cell? ⟨q, 2, none⟩ = some (.int .i64 n) := (bw3.cell (p := ⟨q, 2, none⟩) hq).trans (hy 2 (by decide))
  have cy3 : w3.cell? ⟨q, 3, none⟩ = some (.string ⟨#[]⟩) := (bw3.cell (p := ⟨q, 3, none⟩) hq).trans (hy 3 (by decide))
  have cy4 : w3.cell? ⟨q, 4, none⟩ = some (.slice ip 0 ic) := (bw3.cell (p := ⟨q, 4, none⟩) hq).trans (hy 4 (by decide))
  have cy5 : w3.cell? ⟨q, 5, none⟩ = some (.slice jp 0 jc) := (bw3.cell (p := ⟨q, 5, none⟩) hq).trans (hy 5 (by decide))
  have cy6 : w3.cell? ⟨q, 6, none⟩ = some (.int .i64 2) := (bw3.cell (p := ⟨q, 6, none⟩) hq).trans (hy 6 (by decide))
  have cy7 : w3.cell? ⟨q, 7, none⟩ = some (.bool false) := (bw3.cell (p := ⟨q, 7, none⟩) hq).trans (hy 7 (by decide))
  have cy8 : w3.cell? ⟨q, 8, none⟩ = some (.int .i64 1) := (bw3.cell (p := ⟨q, 8, none⟩) hq).trans (hy 8 (by decide))
  have cy9 : w3.cell? ⟨q, 9, none⟩ = some (.string ⟨#[]⟩) := (bw3.cell (p := ⟨q, 9, none⟩) hq).trans (hy 9 (by decide))
  have cy10 : w3.cell? ⟨q, 10, none⟩ = some (.slice none 0 0) := (bw3.cell (p := ⟨q, 10, none⟩) hq).trans (hy 10 (by decide))
  have cy11 : w3.cell? ⟨q, 11, none⟩ = some (.slice none 0 0) := (bw3.cell (p := ⟨q, 11, none⟩) hq).trans (hy 11 (by decide))
  have aR : Hid (w3.heap[w.heap.size]? = some (.cells #[.int .i64 6, .string ⟨#[43]⟩, .int .i64 vk, .bool vb, .int .i64 vn, .string vs, .slice none 0 0, .slice none 0 0, .slice kp 2 kc, .slice np m nc] 28 (0, 0)) ∧ w3.heap[w.heap.size + 1]? = some (.cells #[.int .i64 0, .bool false, .int .i64 0, .string ⟨#[]⟩, .slice none 0 0, .slice none 0 0] 25 (0, 0)) ∧ Below w.heap.size w w3) := ⟨rw30, rw31, bw3⟩
  have hq3 : q < w3.heap.size := Nat.lt_of_lt_of_le hq bw3.size
  clear hw3 rw31 bw3 hy hq
  have ka := asks_plus
  go_enter Tryz.func45, Tryz.ntmps45
  go_wp2_with (first | rw [HWw3.out] | fail)
  refine (ka _).mono ?_
  rintro r w4 ⟨rfl, rfl⟩
  go_wp2_with fail
  refine any_tail (by kernel_rfl) 11 (by exact Nat.le_of_ble_eq_true rfl) (fun i => i + 44) (mixR [] [.pointer (some ⟨w.heap.size, 1, none⟩), .string ⟨#[43]⟩, .slice (some ⟨q, 0, none⟩) 2 cap, .pointer (some ⟨q, 0, none⟩), .agg #[.int .i64 2, .bool false, .int .i64 n, .string ⟨#[]⟩, .slice ip 0 ic, .slice jp 0 jc], .slice (some ⟨q, 0, none⟩) 2 cap, .pointer (some ⟨q, 6, none⟩), .agg #[.int .i64 2, .bool false, .int .i64 1, .string ⟨#[]⟩, .slice none 0 0, .slice none 0 0], .tuple #[.agg #[.int .i64 v.k, .bool v.b, .int .i64 v.n, .string v.s, .slice v.p 0 v.pc, .slice v.q 0 v.qc], .int .i64 E], .agg #[.int .i64 v.k, .bool v.b, .int .i64 v.n, .string v.s, .slice v.p 0 v.pc, .slice v.q 0 v.qc], .int .i64 E]) (by kernel_rfl) (by kernel_rfl) (by kernel_rfl) (by kernel_rfl) (mixR_later _ _ (stab_nil)) ?step ?post
  case step =>
    intro iq hiq a W hrest hb hk
    have hp2 : a.eval (.tmp 2) = .pointer (some ⟨w.heap.size, 0, none⟩) := (hrest 2 (by intro iq2 hiq2; (repeat' split) <;> omega)).trans rfl
    have fp2 := ev hp2
    have hx2 : W.heap[w.heap.size]? = some (.cells #[.int .i64 6, .string ⟨#[43]⟩, .int .i64 vk, .bool vb, .int .i64 vn, .string vs, .slice none 0 0, .slice none 0 0, .slice kp 2 kc, .slice np m nc] 28 (0, 0)) := (hb.block _ (lt_of_row rw30)).trans rw30
    have hp1 : a.eval (.tmp 1) = .slice (some ⟨q, 0, none⟩) 2 cap := (hrest 1 (by intro iq2 hiq2; (repeat' split) <;> omega)).trans rfl
    have fp1 := ev hp1
    clear hrest
    obtain rfl | rfl | rfl | rfl | rfl | rfl | rfl | rfl | rfl | rfl | rfl : iq = 0 ∨ iq = 1 ∨ iq = 2 ∨ iq = 3 ∨ iq = 4 ∨ iq = 5 ∨ iq = 6 ∨ iq = 7 ∨ iq = 8 ∨ iq = 9 ∨ iq = 10 := by omega
    · clear hiq
      clear hk
      refine ⟨_, rfl, rfl, rfl, wp_value (v := .pointer (some ⟨w.heap.size, 1, none⟩)) (w' := W) ?_ ⟨_, rfl, Below.refl _ _, rfl⟩⟩
      go_simp
    · clear hiq
      have e0 : a.eval (.tmp 44) = .pointer (some ⟨w.heap.size, 1, none⟩) := hk 0 (mem_of (by kernel_rfl))
      have f0 := ev e0
      have hc1 := cell_of_row W w.heap.size 1 _ _ _ hx2
      clear hk
      refine ⟨_, rfl, rfl, rfl, wp_value (v := .string ⟨#[43]⟩) (w' := W) ?_ ⟨_, rfl, Below.refl _ _, rfl⟩⟩
      go_simp
    · clear hiq
      have g1 := fp1
      clear hk
      refine ⟨_, rfl, rfl, rfl, wp_value (v := .slice (some ⟨q, 0, none⟩) 2 cap) (w' := W) ?_ ⟨_, rfl, Below.refl _ _, rfl⟩⟩
      go_simp
    · clear hiq
      have e2 : a.eval (.tmp 46) = .slice (some ⟨q, 0, none⟩) 2 cap := hk 2 (mem_of (by kernel_rfl))
      have f2 := ev e2
      clear hk
      refine ⟨_, rfl, rfl, rfl, wp_value (v := .pointer (some ⟨q, 0, none⟩)) (w' := W) ?_ ⟨_, rfl, Below.refl _ _, rfl⟩⟩
      go_simp
    · clear hiq
      have e3 : a.eval (.tmp 47) = .pointer (some ⟨q, 0, none⟩) := hk 3 (mem_of (by kernel_rfl))
      have f3 := ev e3
      have hk0 := (hb.cell (p := ⟨q, 0, none⟩) hq3).trans cy0
      have hk1 := (hb.cell (p := ⟨q, 1, none⟩) hq3).trans cy1
      have hk2 := (hb.cell (p := ⟨q, 2, none⟩) hq3).trans cy2
      have hk3 := (hb.cell (p := ⟨q, 3, none⟩) hq3).trans cy3
      have hk4 := (hb.cell (p := ⟨q, 4, none⟩) hq3).trans cy4
      have hk5 := (hb.cell (p := ⟨q, 5, none⟩) hq3).trans cy5
      clear hk
      refine ⟨_, rfl, rfl, rfl, wp_value (v := .agg #[.int .i64 2, .bool false, .int .i64 n, .string ⟨#[]⟩, .slice ip 0 ic, .slice jp 0 jc]) (w' := W) ?_ ⟨_, rfl, Below.refl _ _, rfl⟩⟩
      go_simp
    · clear hiq
      clear hk
      refine ⟨_, rfl, rfl, rfl, wp_value (v := .slice (some ⟨q, 0, none⟩) 2 cap) (w' := W) ?_ ⟨_, rfl, Below.refl _ _, rfl⟩⟩
      go_simp
    · clear hiq
      have e5 : a.eval (.tmp 49) = .slice (some ⟨q, 0, none⟩) 2 cap := hk 5 (mem_of (by kernel_rfl))
      have f5 := ev e5
      clear hk
      refine ⟨_, rfl, rfl, rfl, wp_value (v := .pointer (some ⟨q, 6, none⟩)) (w' := W) ?_ ⟨_, rfl, Below.refl _ _, rfl⟩⟩
      go_simp
    · clear hiq
      have e6 : a.eval (.tmp 50) = .pointer (some ⟨q, 6, none⟩) := hk 6 (mem_of (by kernel_rfl))
      have f6 := ev e6
      have hk0 := (hb.cell (p := ⟨q, 6, none⟩) hq3).trans cy6
      have hk1 := (hb.cell (p := ⟨q, 7, none⟩) hq3).trans cy7
      have hk2 := (hb.cell (p := ⟨q, 8, none⟩) hq3).trans cy8
      have hk3 := (hb.cell (p := ⟨q, 9, none⟩) hq3).trans cy9
      have hk4 := (hb.cell (p := ⟨q, 10, none⟩) hq3).trans cy10
      have hk5 := (hb.cell (p := ⟨q, 11, none⟩) hq3).trans cy11
      clear hk
      refine ⟨_, rfl, rfl, rfl, wp_value (v := .agg #[.int .i64 2, .bool false, .int .i64 1, .string ⟨#[]⟩, .slice none 0 0, .slice none 0 0]) (w' := W) ?_ ⟨_, rfl, Below.refl _ _, rfl⟩⟩
      go_simp
    · clear hiq
      have e1 : a.eval (.tmp 45) = .string ⟨#[43]⟩ := hk 1 (mem_of (by kernel_rfl))
      have f1 := ev e1
      have e4 : a.eval (.tmp 48) = .agg #[.int .i64 2, .bool false, .int .i64 n, .string ⟨#[]⟩, .slice ip 0 ic, .slice jp 0 jc] := hk 4 (mem_of (by kernel_rfl))
      have f4 := ev e4
      have e7 : a.eval (.tmp 51) = .agg #[.int .i64 2, .bool false, .int .i64 1, .string ⟨#[]⟩, .slice none 0 0, .slice none 0 0] := hk 7 (mem_of (by kernel_rfl))
      have f7 := ev e7
      clear hk
      refine ⟨_, rfl, rfl, rfl, wp_enter (f := 67) (args := #[.string ⟨#[43]⟩, .agg #[.int .i64 2, .bool false, .int .i64 n, .string ⟨#[]⟩, .slice ip 0 ic, .slice jp 0 jc], .agg #[.int .i64 2, .bool false, .int .i64 1, .string ⟨#[]⟩, .slice none 0 0, .slice none 0 0]]) ?_ ((kn W).mono ?_)⟩
      · go_simp
      · rintro e w2 ⟨rfl, hb2⟩
        exact ⟨_, rfl, _, rfl, hb2, rfl⟩
    · clear hiq
      have e8 : a.eval (.tmp 52) = .tuple #[.agg #[.int .i64 v.k, .bool v.b, .int .i64 v.n, .string v.s, .slice v.p 0 v.pc, .slice v.q 0 v.qc], .int .i64 E] := hk 8 (mem_of (by kernel_rfl))
      have f8 := ev e8
      clear hk
      refine ⟨_, rfl, rfl, rfl, wp_value (v := .agg #[.int .i64 v.k, .bool v.b, .int .i64 v.n, .string v.s, .slice v.p 0 v.pc, .slice v.q 0 v.qc]) (w' := W) ?_ ⟨_, rfl, Below.refl _ _, rfl⟩⟩
      go_simp
    · clear hiq
      have e8 : a.eval (.tmp 52) = .tuple #[.agg #[.int .i64 v.k, .bool v.b, .int .i64 v.n, .string v.s, .slice v.p 0 v.pc, .slice v.q 0 v.qc], .int .i64 E] := hk 8 (mem_of (by kernel_rfl))
      have f8 := ev e8
      clear hk
      refine ⟨_, rfl, rfl, rfl, wp_value (v := .int .i64 E) (w' := W) ?_ ⟨_, rfl, Below.refl _ _, rfl⟩⟩
      go_simp
  case post =>
    intro V1 W hbW hV
    have v9 : V1 9 = .agg #[.int .i64 v.k, .bool v.b, .int .i64 v.n, .string v.s, .slice v.p 0 v.pc, .slice v.q 0 v.qc] := hV 9 (by omega)
    have v10 : V1 10 = .int .i64 E := hV 10 (by omega)
    have bR : Hid (W.heap[w.heap.size]? = some (.cells #[.int .i64 6, .string ⟨#[43]⟩, .int .i64 vk, .bool vb, .int .i64 vn, .string vs, .slice none 0 0, .slice none 0 0, .slice kp 2 kc, .slice np m nc] 28 (0, 0)) ∧ W.heap[w.heap.size + 1]? = some (.cells #[.int .i64 0, .bool false, .int .i64 0, .string ⟨#[]⟩, .slice none 0 0, .slice none 0 0] 25 (0, 0)) ∧ Below w.heap.size w W) := ⟨Below.row hbW aR.out.1, Below.row hbW aR.out.2.1, aR.out.2.2.trans (hbW.mono aR.out.2.2.size)⟩
    clear hV hbW aR
    simp only [putAll, Nat.reduceAdd]
    rw [v9, v10]
    simp only [Act.put, List.setIfInBounds_toArray, List.set_cons_zero, List.set_cons_succ, List.drop_succ_cons, List.drop_zero]
    go_wp2_with (first | (refine wpList_put rfl 25 (.tmp 4) (.tmp 53) rfl rfl rfl rfl bR.out.2.1 rfl info25 (by simp [Value.oneCell']) ?_) | fail)
    exact bodyPost_ret (results_row_tmp Tryz.results45 _ _ (w.heap.size + 1) 25 _ (0, 0) _ rfl (put_row _ bR.out.2.1 rfl) Tryz.underlying25 rfl info25) rfl ⟨rfl, put_below bR.out.2.2 _ (by omega) _⟩
set_option maxRecDepth 100000 in
set_option maxHeartbeats 4000000 in
theorem signed_eq (vk : Int) (vb : Bool) (vn : Int) (vs : ByteArray) (kp : Option Addr) (kc : Nat) (np : Option Addr) (m nc : Nat) (q cap : Nat) (_hc : 2 ≤ cap ∧ cap ≤ maxLen) (w : World) (hq : q < w.heap.size) (hy : ∀ j, j < 12 → w.cell? ⟨q, j, none⟩ = ((inL 2).cs ++ (inL 2).cs)[j]?) :
    Calls Tryz.prog 45 #[.agg #[.int .i64 6, .string ⟨#[61]⟩, .int .i64 vk, .bool vb, .int .i64 vn, .string vs, .slice none 0 0, .slice none 0 0, .slice kp 2 kc, .slice np m nc], .slice (some ⟨q, 0, none⟩) 2 cap] w fun r w' => r = .returned (.tuple #[.agg #[.int .i64 1, .bool true, .int .i64 0, .string ⟨#[]⟩, .slice none 0 0, .slice none 0 0], .int .i64 0]) ∧ Below w.heap.size w w' := by
  have ko : ∀ W : World, Calls Tryz.prog 68 #[.string ⟨#[61]⟩, .int .i64 0] W fun r w' => r = .returned (.bool true) ∧ Below W.heap.size W w' := fun W => (ordered_eq W).mono (by rintro r w' ⟨rfl, rfl⟩; exact ⟨rfl, Below.refl _ _⟩)
  have kb : ∀ W : World, Calls Tryz.prog 32 #[.bool true] W fun r w' => r = .returned (.agg #[.int .i64 1, .bool true, .int .i64 0, .string ⟨#[]⟩, .slice none 0 0, .slice none 0 0]) ∧ Below W.heap.size W w' := bool_any true
  obtain ⟨w3, hw3⟩ : ∃ u, ((w.alloc (.cells #[.int .i64 6, .string ⟨#[61]⟩, .int .i64 vk, .bool vb, .int .i64 vn, .string vs, .slice none 0 0, .slice none 0 0, .slice kp 2 kc, .slice np m nc] 28)).alloc (.cells #[.int .i64 0, .bool false, .int .i64 0, .string ⟨#[]⟩, .slice none 0 0, .slice none 0 0] 25)) = u := ⟨_, rfl⟩
  obtain ⟨rw30, rw31, bw3⟩ := alloc2 hw3
  have HWw3 := mkHid hw3
  have cx0 : w3.cell? ⟨w.heap.size, 0, none⟩ = some (.int .i64 6) := cell_of_row w3 _ 0 _ _ _ rw30
  have cx1 : w3.cell? ⟨w.heap.size, 1, none⟩ = some (.string ⟨#[61]⟩) := cell_of_row w3 _ 1 _ _ _ rw30
  have cy0 : w3.cell? ⟨q, 0, none⟩ = some (.int .i64 2) := (bw3.cell (p := ⟨q, 0, none⟩) hq).trans (hy 0 (by decide))
  have cy1 : w3.cell? ⟨q, 1, none⟩ = some (.bool false) := (bw3.cell (p := ⟨q, 1, none⟩) hq).trans (hy 1 (by decide))
  have cy2 : w3.cell? ⟨q, 2, none⟩ = some (.int .i64 2) := (bw3.cell (p := ⟨q, 2, none⟩) hq).trans (hy 2 (by decide))
  have cy3 : w3.cell? ⟨q, 3, none⟩ = some (.string ⟨#[]⟩) := (bw3.cell (p := ⟨q, 3, none⟩) hq).trans (hy 3 (by decide))
  have cy4 : w3.cell? ⟨q, 4, none⟩ = some (.slice none 0 0) := (bw3.cell (p := ⟨q, 4, none⟩) hq).trans (hy 4 (by decide))
  have cy5 : w3.cell? ⟨q, 5, none⟩ = some (.slice none 0 0) := (bw3.cell (p := ⟨q, 5, none⟩) hq).trans (hy 5 (by decide))
  have cy6 : w3.cell? ⟨q, 6, none⟩ = some (.int .i64 2) := (bw3.cell (p := ⟨q, 6, none⟩) hq).trans (hy 6 (by decide))
  have cy7 : w3.cell? ⟨q, 7, none⟩ = some (.bool false) := (bw3.cell (p := ⟨q, 7, none⟩) hq).trans (hy 7 (by decide))
  have cy8 : w3.cell? ⟨q, 8, none⟩ = some (.int .i64 2) := (bw3.cell (p := ⟨q, 8, none⟩) hq).trans (hy 8 (by decide))
  have cy9 : w3.cell? ⟨q, 9, none⟩ = some (.string ⟨#[]⟩) := (bw3.cell (p := ⟨q, 9, none⟩) hq).trans (hy 9 (by decide))
  have cy10 : w3.cell? ⟨q, 10, none⟩ = some (.slice none 0 0) := (bw3.cell (p := ⟨q, 10, none⟩) hq).trans (hy 10 (by decide))
  have cy11 : w3.cell? ⟨q, 11, none⟩ = some (.slice none 0 0) := (bw3.cell (p := ⟨q, 11, none⟩) hq).trans (hy 11 (by decide))
  have aR : Hid (w3.heap[w.heap.size]? = some (.cells #[.int .i64 6, .string ⟨#[61]⟩, .int .i64 vk, .bool vb, .int .i64 vn, .string vs, .slice none 0 0, .slice none 0 0, .slice kp 2 kc, .slice np m nc] 28 (0, 0)) ∧ w3.heap[w.heap.size + 1]? = some (.cells #[.int .i64 0, .bool false, .int .i64 0, .string ⟨#[]⟩, .slice none 0 0, .slice none 0 0] 25 (0, 0)) ∧ Below w.heap.size w w3) := ⟨rw30, rw31, bw3⟩
  have hq3 : q < w3.heap.size := Nat.lt_of_lt_of_le hq bw3.size
  clear hw3 rw31 bw3 hy hq
  have ka := asks_eq
  go_enter Tryz.func45, Tryz.ntmps45
  go_wp2_with (first | rw [HWw3.out] | fail)
  refine (ka _).mono ?_
  rintro r w4 ⟨rfl, rfl⟩
  go_wp2_with fail
  refine any_tail (by kernel_rfl) 11 (by exact Nat.le_of_ble_eq_true rfl) (fun i => i + 55) (mixR [] [.pointer (some ⟨w.heap.size, 1, none⟩), .string ⟨#[61]⟩, .slice (some ⟨q, 0, none⟩) 2 cap, .pointer (some ⟨q, 0, none⟩), .agg #[.int .i64 2, .bool false, .int .i64 2, .string ⟨#[]⟩, .slice none 0 0, .slice none 0 0], .slice (some ⟨q, 0, none⟩) 2 cap, .pointer (some ⟨q, 6, none⟩), .agg #[.int .i64 2, .bool false, .int .i64 2, .string ⟨#[]⟩, .slice none 0 0, .slice none 0 0], .int .i64 0, .bool true, .agg #[.int .i64 1, .bool true, .int .i64 0, .string ⟨#[]⟩, .slice none 0 0, .slice none 0 0]]) (by kernel_rfl) (by kernel_rfl) (by kernel_rfl) (by kernel_rfl) (mixR_later _ _ (stab_nil)) ?step ?post
  case step =>
    intro iq hiq a W hrest hb hk
    have hp2 : a.eval (.tmp 2) = .pointer (some ⟨w.heap.size, 0, none⟩) := (hrest 2 (by intro iq2 hiq2; (repeat' split) <;> omega)).trans rfl
    have fp2 := ev hp2
    have hx2 : W.heap[w.heap.size]? = some (.cells #[.int .i64 6, .string ⟨#[61]⟩, .int .i64 vk, .bool vb, .int .i64 vn, .string vs, .slice none 0 0, .slice none 0 0, .slice kp 2 kc, .slice np m nc] 28 (0, 0)) := (hb.block _ (lt_of_row rw30)).trans rw30
    have hp1 : a.eval (.tmp 1) = .slice (some ⟨q, 0, none⟩) 2 cap := (hrest 1 (by intro iq2 hiq2; (repeat' split) <;> omega)).trans rfl
    have fp1 := ev hp1
    clear hrest
    obtain rfl | rfl | rfl | rfl | rfl | rfl | rfl | rfl | rfl | rfl | rfl : iq = 0 ∨ iq = 1 ∨ iq = 2 ∨ iq = 3 ∨ iq = 4 ∨ iq = 5 ∨ iq = 6 ∨ iq = 7 ∨ iq = 8 ∨ iq = 9 ∨ iq = 10 := by omega
    · clear hiq
      clear hk
      refine ⟨_, rfl, rfl, rfl, wp_value (v := .pointer (some ⟨w.heap.size, 1, none⟩)) (w' := W) ?_ ⟨_, rfl, Below.refl _ _, rfl⟩⟩
      go_simp
    · clear hiq
      have e0 : a.eval (.tmp 55) = .pointer (some ⟨w.heap.size, 1, none⟩) := hk 0 (mem_of (by kernel_rfl))
      have f0 := ev e0
      have hc1 := cell_of_row W w.heap.size 1 _ _ _ hx2
      clear hk
      refine ⟨_, rfl, rfl, rfl, wp_value (v := .string ⟨#[61]⟩) (w' := W) ?_ ⟨_, rfl, Below.refl _ _, rfl⟩⟩
      go_simp
    · clear hiq
      clear hk
      refine ⟨_, rfl, rfl, rfl, wp_value (v := .slice (some ⟨q, 0, none⟩) 2 cap) (w' := W) ?_ ⟨_, rfl, Below.refl _ _, rfl⟩⟩
      go_simp
    · clear hiq
      have e2 : a.eval (.tmp 57) = .slice (some ⟨q, 0, none⟩) 2 cap := hk 2 (mem_of (by kernel_rfl))
      have f2 := ev e2
      clear hk
      refine ⟨_, rfl, rfl, rfl, wp_value (v := .pointer (some ⟨q, 0, none⟩)) (w' := W) ?_ ⟨_, rfl, Below.refl _ _, rfl⟩⟩
      go_simp
    · clear hiq
      have e3 : a.eval (.tmp 58) = .pointer (some ⟨q, 0, none⟩) := hk 3 (mem_of (by kernel_rfl))
      have f3 := ev e3
      have hk0 := (hb.cell (p := ⟨q, 0, none⟩) hq3).trans cy0
      have hk1 := (hb.cell (p := ⟨q, 1, none⟩) hq3).trans cy1
      have hk2 := (hb.cell (p := ⟨q, 2, none⟩) hq3).trans cy2
      have hk3 := (hb.cell (p := ⟨q, 3, none⟩) hq3).trans cy3
      have hk4 := (hb.cell (p := ⟨q, 4, none⟩) hq3).trans cy4
      have hk5 := (hb.cell (p := ⟨q, 5, none⟩) hq3).trans cy5
      clear hk
      refine ⟨_, rfl, rfl, rfl, wp_value (v := .agg #[.int .i64 2, .bool false, .int .i64 2, .string ⟨#[]⟩, .slice none 0 0, .slice none 0 0]) (w' := W) ?_ ⟨_, rfl, Below.refl _ _, rfl⟩⟩
      go_simp
    · clear hiq
      clear hk
      refine ⟨_, rfl, rfl, rfl, wp_value (v := .slice (some ⟨q, 0, none⟩) 2 cap) (w' := W) ?_ ⟨_, rfl, Below.refl _ _, rfl⟩⟩
      go_simp
    · clear hiq
      have e5 : a.eval (.tmp 60) = .slice (some ⟨q, 0, none⟩) 2 cap := hk 5 (mem_of (by kernel_rfl))
      have f5 := ev e5
      clear hk
      refine ⟨_, rfl, rfl, rfl, wp_value (v := .pointer (some ⟨q, 6, none⟩)) (w' := W) ?_ ⟨_, rfl, Below.refl _ _, rfl⟩⟩
      go_simp
    · clear hiq
      have e6 : a.eval (.tmp 61) = .pointer (some ⟨q, 6, none⟩) := hk 6 (mem_of (by kernel_rfl))
      have f6 := ev e6
      have hk0 := (hb.cell (p := ⟨q, 6, none⟩) hq3).trans cy6
      have hk1 := (hb.cell (p := ⟨q, 7, none⟩) hq3).trans cy7
      have hk2 := (hb.cell (p := ⟨q, 8, none⟩) hq3).trans cy8
      have hk3 := (hb.cell (p := ⟨q, 9, none⟩) hq3).trans cy9
      have hk4 := (hb.cell (p := ⟨q, 10, none⟩) hq3).trans cy10
      have hk5 := (hb.cell (p := ⟨q, 11, none⟩) hq3).trans cy11
      clear hk
      refine ⟨_, rfl, rfl, rfl, wp_value (v := .agg #[.int .i64 2, .bool false, .int .i64 2, .string ⟨#[]⟩, .slice none 0 0, .slice none 0 0]) (w' := W) ?_ ⟨_, rfl, Below.refl _ _, rfl⟩⟩
      go_simp
    · clear hiq
      have e4 : a.eval (.tmp 59) = .agg #[.int .i64 2, .bool false, .int .i64 2, .string ⟨#[]⟩, .slice none 0 0, .slice none 0 0] := hk 4 (mem_of (by kernel_rfl))
      have f4 := ev e4
      have e7 : a.eval (.tmp 62) = .agg #[.int .i64 2, .bool false, .int .i64 2, .string ⟨#[]⟩, .slice none 0 0, .slice none 0 0] := hk 7 (mem_of (by kernel_rfl))
      have f7 := ev e7
      clear hk
      refine ⟨_, rfl, rfl, rfl, wp_enter (f := 69) (args := #[.agg #[.int .i64 2, .bool false, .int .i64 2, .string ⟨#[]⟩, .slice none 0 0, .slice none 0 0], .agg #[.int .i64 2, .bool false, .int .i64 2, .string ⟨#[]⟩, .slice none 0 0, .slice none 0 0]]) ?_ ((compare_two W).mono ?_)⟩
      · go_simp
      · rintro e w2 ⟨rfl, hb2⟩
        exact ⟨_, rfl, _, rfl, hb2, rfl⟩
    · clear hiq
      have e1 : a.eval (.tmp 56) = .string ⟨#[61]⟩ := hk 1 (mem_of (by kernel_rfl))
      have f1 := ev e1
      have e8 : a.eval (.tmp 63) = .int .i64 0 := hk 8 (mem_of (by kernel_rfl))
      have f8 := ev e8
      clear hk
      refine ⟨_, rfl, rfl, rfl, wp_enter (f := 68) (args := #[.string ⟨#[61]⟩, .int .i64 0]) ?_ ((ko W).mono ?_)⟩
      · go_simp
      · rintro e w2 ⟨rfl, hb2⟩
        exact ⟨_, rfl, _, rfl, hb2, rfl⟩
    · clear hiq
      have e9 : a.eval (.tmp 64) = .bool true := hk 9 (mem_of (by kernel_rfl))
      have f9 := ev e9
      clear hk
      refine ⟨_, rfl, rfl, rfl, wp_enter (f := 32) (args := #[.bool true]) ?_ ((kb W).mono ?_)⟩
      · go_simp
      · rintro e w2 ⟨rfl, hb2⟩
        exact ⟨_, rfl, _, rfl, hb2, rfl⟩
  case post =>
    intro V1 W hbW hV
    have v10 : V1 10 = .agg #[.int .i64 1, .bool true, .int .i64 0, .string ⟨#[]⟩, .slice none 0 0, .slice none 0 0] := hV 10 (by omega)
    have bR : Hid (W.heap[w.heap.size]? = some (.cells #[.int .i64 6, .string ⟨#[61]⟩, .int .i64 vk, .bool vb, .int .i64 vn, .string vs, .slice none 0 0, .slice none 0 0, .slice kp 2 kc, .slice np m nc] 28 (0, 0)) ∧ W.heap[w.heap.size + 1]? = some (.cells #[.int .i64 0, .bool false, .int .i64 0, .string ⟨#[]⟩, .slice none 0 0, .slice none 0 0] 25 (0, 0)) ∧ Below w.heap.size w W) := ⟨Below.row hbW aR.out.1, Below.row hbW aR.out.2.1, aR.out.2.2.trans (hbW.mono aR.out.2.2.size)⟩
    clear hV hbW aR
    simp only [putAll, Nat.reduceAdd]
    rw [v10]
    simp only [Act.put, List.setIfInBounds_toArray, List.set_cons_zero, List.set_cons_succ, List.drop_succ_cons, List.drop_zero]
    go_wp2_with (first | (refine wpList_put rfl 25 (.tmp 4) (.tmp 65) rfl rfl rfl rfl bR.out.2.1 rfl info25 (by simp [Value.oneCell']) ?_) | fail)
    exact bodyPost_ret (results_row_tmp Tryz.results45 _ _ (w.heap.size + 1) 25 _ (0, 0) _ rfl (put_row _ bR.out.2.1 rfl) Tryz.underlying25 rfl info25) rfl ⟨rfl, put_below bR.out.2.2 _ (by omega) _⟩
end Go.Proofs.YtnnclhmhbmbkfaaGreatDoor
