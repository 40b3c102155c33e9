/- NOT, and AND and OR, of literals: signed, reckon, truth, joined. -/
import Derived.Test.YtnnclhmhbmbkfaaGreatDoorXaj
import Derived.Laws.OwnMore
namespace Go.Proofs.YtnnclhmhbmbkfaaGreatDoor
open Go.RowKit Go.Shelf
attribute [local go_sem] Oper.semAt_some
set_option maxRecDepth 100000 in
set_option maxHeartbeats 4000000 in
theorem signed_not (xs : ByteArray) (vk : Int) (vb : Bool) (vn : Int) (vs : ByteArray) (kp : Option Addr) (kc : Nat) (np : Option Addr) (m nc : Nat) (y : Lf) (q cap : Nat) (_hc : 1 ≤ cap ∧ cap ≤ maxLen) (w : World) (hy : ∀ j, j < 6 → w.cell? ⟨q, j, none⟩ = y.cs[j]?) :
    Calls Tryz.prog 45 #[.agg #[.int .i64 4, .string xs, .int .i64 vk, .bool vb, .int .i64 vn, .string vs, .slice none 0 0, .slice none 0 0, .slice kp 1 kc, .slice np m nc], .slice (some ⟨q, 0, none⟩) 1 cap] w fun r w' => r = .returned (.tuple #[.agg #[.int .i64 1, .bool (!(trB y.k y.b)), .int .i64 0, .string ⟨#[]⟩, .slice none 0 0, .slice none 0 0], .int .i64 (trE y.k)]) ∧ Below w.heap.size w w' := by
  have kt := truth_val y
  change ∀ W, Calls Tryz.prog 51 #[.agg #[.int .i64 y.k, .bool y.b, .int .i64 y.n, .string y.s, .slice y.p 0 y.pc, .slice y.q 0 y.qc]] W _ at kt
  obtain ⟨B, hB⟩ : ∃ B, trB y.k y.b = B := ⟨_, rfl⟩
  obtain ⟨E, hE⟩ : ∃ E, trE y.k = E := ⟨_, rfl⟩
  rw [hB, hE] at kt ⊢
  have kb := bool_any (!B)
  change ∀ W, Calls Tryz.prog 32 #[.bool (!B)] W (fun r w' => r = .returned (.agg #[.int .i64 1, .bool (!B), .int .i64 0, .string ⟨#[]⟩, .slice none 0 0, .slice none 0 0]) ∧ Below W.heap.size W w') at kb
  have hq : q < w.heap.size := Lib.lt_of_cell (show w.cell? ⟨q, 0, none⟩ = some (.int .i64 y.k) from hy 0 (by decide))
  obtain ⟨w3, hw3⟩ : ∃ u, ((w.alloc (.cells #[.int .i64 4, .string xs, .int .i64 vk, .bool vb, .int .i64 vn, .string vs, .slice none 0 0, .slice none 0 0, .slice kp 1 kc, .slice np m nc] 28)).alloc (.cells #[.int .i64 0, .bool false, .int .i64 0, .string ⟨#[]⟩, .slice none 0 0, .slice none 0 0] 25)) = u := ⟨_, rfl⟩
  obtain ⟨rw30, rw31, bw3⟩ := alloc2 hw3
  have HWw3 := mkHid hw3
  have cx0 : w3.cell? ⟨w.heap.size, 0, none⟩ = some (.int .i64 4) := cell_of_row w3 _ 0 _ _ _ rw30
  have cy0 : w3.cell? ⟨q, 0, none⟩ = some (.int .i64 y.k) := (bw3.cell (p := ⟨q, 0, none⟩) hq).trans (hy 0 (by decide))
  have cy1 : w3.cell? ⟨q, 1, none⟩ = some (.bool y.b) := (bw3.cell (p := ⟨q, 1, none⟩) hq).trans (hy 1 (by decide))
  have cy2 : w3.cell? ⟨q, 2, none⟩ = some (.int .i64 y.n) := (bw3.cell (p := ⟨q, 2, none⟩) hq).trans (hy 2 (by decide))
  have cy3 : w3.cell? ⟨q, 3, none⟩ = some (.string y.s) := (bw3.cell (p := ⟨q, 3, none⟩) hq).trans (hy 3 (by decide))
  have cy4 : w3.cell? ⟨q, 4, none⟩ = some (.slice y.p 0 y.pc) := (bw3.cell (p := ⟨q, 4, none⟩) hq).trans (hy 4 (by decide))
  have cy5 : w3.cell? ⟨q, 5, none⟩ = some (.slice y.q 0 y.qc) := (bw3.cell (p := ⟨q, 5, none⟩) hq).trans (hy 5 (by decide))
  have aR : Hid (w3.heap[w.heap.size]? = some (.cells #[.int .i64 4, .string xs, .int .i64 vk, .bool vb, .int .i64 vn, .string vs, .slice none 0 0, .slice none 0 0, .slice kp 1 kc, .slice np m nc] 28 (0, 0)) ∧ w3.heap[w.heap.size + 1]? = some (.cells #[.int .i64 0, .bool false, .int .i64 0, .string ⟨#[]⟩, .slice none 0 0, .slice none 0 0] 25 (0, 0)) ∧ Below w.heap.size w w3) := ⟨rw30, rw31, bw3⟩
  clear hw3 rw30 rw31 bw3 hB hE hy
  go_enter Tryz.func45, Tryz.ntmps45
  go_wp2_with (first | rw [HWw3.out] | fail)
  refine (kt _).mono ?_
  rintro r w4 ⟨rfl, hb4⟩
  have bR : Hid (w4.heap[w.heap.size]? = some (.cells #[.int .i64 4, .string xs, .int .i64 vk, .bool vb, .int .i64 vn, .string vs, .slice none 0 0, .slice none 0 0, .slice kp 1 kc, .slice np m nc] 28 (0, 0)) ∧ w4.heap[w.heap.size + 1]? = some (.cells #[.int .i64 0, .bool false, .int .i64 0, .string ⟨#[]⟩, .slice none 0 0, .slice none 0 0] 25 (0, 0)) ∧ Below w.heap.size w w4) := ⟨Below.row hb4 aR.out.1, Below.row hb4 aR.out.2.1, aR.out.2.2.trans (hb4.mono aR.out.2.2.size)⟩
  clear aR hb4 kt cx0 cy0 cy1 cy2 cy3 cy4 cy5 HWw3
  go_wp2_with fail
  refine (kb _).mono ?_
  rintro r w5 ⟨rfl, hb5⟩
  have cR : Hid (w5.heap[w.heap.size]? = some (.cells #[.int .i64 4, .string xs, .int .i64 vk, .bool vb, .int .i64 vn, .string vs, .slice none 0 0, .slice none 0 0, .slice kp 1 kc, .slice np m nc] 28 (0, 0)) ∧ w5.heap[w.heap.size + 1]? = some (.cells #[.int .i64 0, .bool false, .int .i64 0, .string ⟨#[]⟩, .slice none 0 0, .slice none 0 0] 25 (0, 0)) ∧ Below w.heap.size w w5) := ⟨Below.row hb5 bR.out.1, Below.row hb5 bR.out.2.1, bR.out.2.2.trans (hb5.mono bR.out.2.2.size)⟩
  clear bR hb5 kb
  go_wp2_with (first | (refine wpList_put rfl 25 (.tmp 4) (.tmp 30) rfl rfl rfl rfl cR.out.2.1 rfl info25 (by simp [Value.oneCell']) ?_) | fail)
  exact bodyPost_ret (results_row_tmp Tryz.results45 _ _ (w.heap.size + 1) 25 _ (0, 0) _ rfl (put_row _ cR.out.2.1 rfl) Tryz.underlying25 rfl info25) rfl ⟨rfl, put_below cR.out.2.2 _ (by omega) _⟩
set_option maxRecDepth 100000 in
set_option maxHeartbeats 4000000 in
theorem reckon_not (xs : ByteArray) (vk : Int) (vb : Bool) (vn : Int) (vs : ByteArray) (kg ko kc : Nat) (np : Option Addr) (m nc : Nat) (y : Lf) (dk : Int) (db : Bool) (dn : Int) (ds : ByteArray) (dp : Option Addr) (dm dc : Nat) (dq : Option Addr) (dl de : Nat) (w : World) (hall : ∀ W, Below w.heap.size w W → Calls Tryz.prog 42 #[.slice (some ⟨kg, ko, none⟩) 1 kc, .agg #[.int .i64 dk, .bool db, .int .i64 dn, .string ds, .slice dp dm dc, .slice dq dl de]] W fun r W' => ∃ q k, r = .returned (.tuple #[.slice q 1 k, .int .i64 0]) ∧ W'.ownsRow W.heap.size 25 6 (.slice q 1 k) 1 y.cs ∧ Below W.heap.size W W') :
    Calls Tryz.prog 21 #[.agg #[.int .i64 4, .string xs, .int .i64 vk, .bool vb, .int .i64 vn, .string vs, .slice none 0 0, .slice none 0 0, .slice (some ⟨kg, ko, none⟩) 1 kc, .slice np m nc], .agg #[.int .i64 dk, .bool db, .int .i64 dn, .string ds, .slice dp dm dc, .slice dq dl de]] w fun r w' => r = .returned (.tuple #[.agg #[.int .i64 1, .bool (!(trB y.k y.b)), .int .i64 0, .string ⟨#[]⟩, .slice none 0 0, .slice none 0 0], .int .i64 (trE y.k)]) ∧ Below w.heap.size w w' := by
  have HALL : Hid (∀ W, Below w.heap.size w W → Calls Tryz.prog 42 #[.slice (some ⟨kg, ko, none⟩) 1 kc, .agg #[.int .i64 dk, .bool db, .int .i64 dn, .string ds, .slice dp dm dc, .slice dq dl de]] W fun r W' => ∃ q k, r = .returned (.tuple #[.slice q 1 k, .int .i64 0]) ∧ W'.ownsRow W.heap.size 25 6 (.slice q 1 k) 1 y.cs ∧ Below W.heap.size W W') := hall
  clear hall
  obtain ⟨B, hB⟩ : ∃ B, (!(trB y.k y.b)) = B := ⟨_, rfl⟩
  obtain ⟨E, hE⟩ : ∃ E, trE y.k = E := ⟨_, rfl⟩
  have HS : Hid (∀ (q cap : Nat) (_ : 1 ≤ cap ∧ cap ≤ maxLen) (w : World) (_ : ∀ j, j < 6 → w.cell? ⟨q, j, none⟩ = y.cs[j]?), Calls Tryz.prog 45 #[.agg #[.int .i64 4, .string xs, .int .i64 vk, .bool vb, .int .i64 vn, .string vs, .slice none 0 0, .slice none 0 0, .slice (some ⟨kg, ko, none⟩) 1 kc, .slice np m nc], .slice (some ⟨q, 0, none⟩) 1 cap] w fun r w' => r = .returned (.tuple #[.agg #[.int .i64 1, .bool B, .int .i64 0, .string ⟨#[]⟩, .slice none 0 0, .slice none 0 0], .int .i64 E]) ∧ Below w.heap.size w w') := by
    rw [← hB, ← hE]
    exact fun q cap hc w h => signed_not xs vk vb vn vs (some ⟨kg, ko, none⟩) kc np m nc y q cap hc w h
  rw [hB, hE]
  clear hB hE
  have kk := kids_not (.string xs) (.int .i64 vk) (.bool vb) (.int .i64 vn) (.string vs) (.slice none 0 0) (.slice none 0 0) (.slice (some ⟨kg, ko, none⟩) 1 kc) (.slice np m nc)
  obtain ⟨w3, hw3⟩ : ∃ u, (((w.alloc (.cells #[.int .i64 4, .string xs, .int .i64 vk, .bool vb, .int .i64 vn, .string vs, .slice none 0 0, .slice none 0 0, .slice (some ⟨kg, ko, none⟩) 1 kc, .slice np m nc] 28)).alloc (.cells #[.int .i64 dk, .bool db, .int .i64 dn, .string ds, .slice dp dm dc, .slice dq dl de] 25)).alloc (.cells #[.int .i64 0, .bool false, .int .i64 0, .string ⟨#[]⟩, .slice none 0 0, .slice none 0 0] 25)) = u := ⟨_, rfl⟩
  obtain ⟨rw30, rw31, rw32, bw3⟩ := alloc3 hw3
  have HWw3 := mkHid hw3
  have aR : Hid (w3.heap[w.heap.size]? = some (.cells #[.int .i64 4, .string xs, .int .i64 vk, .bool vb, .int .i64 vn, .string vs, .slice none 0 0, .slice none 0 0, .slice (some ⟨kg, ko, none⟩) 1 kc, .slice np m nc] 28 (0, 0)) ∧ w3.heap[w.heap.size + 1]? = some (.cells #[.int .i64 dk, .bool db, .int .i64 dn, .string ds, .slice dp dm dc, .slice dq dl de] 25 (0, 0)) ∧ w3.heap[w.heap.size + 1 + 1]? = some (.cells #[.int .i64 0, .bool false, .int .i64 0, .string ⟨#[]⟩, .slice none 0 0, .slice none 0 0] 25 (0, 0)) ∧ Below w.heap.size w w3) := ⟨rw30, rw31, rw32, bw3⟩
  clear hw3 rw31 rw32 bw3
  go_enter Tryz.func21, Tryz.ntmps21
  go_wp2_with (first | rw [HWw3.out] | fail)
  refine any_tail (by kernel_rfl) 6 (by exact Nat.le_of_ble_eq_true rfl) (fun i => i + 10) (mixR [] [.pointer (some ⟨w.heap.size, 8, none⟩), .slice (some ⟨kg, ko, none⟩) 1 kc, .int .i64 1, .agg #[.int .i64 4, .string xs, .int .i64 vk, .bool vb, .int .i64 vn, .string vs, .slice none 0 0, .slice none 0 0, .slice (some ⟨kg, ko, none⟩) 1 kc, .slice np m nc], .int .i64 1, .bool false]) (by kernel_rfl) (by kernel_rfl) (by kernel_rfl) (by kernel_rfl) (mixR_later _ _ (stab_nil)) ?step ?post
  case step =>
    intro iq hiq a W hrest hb hk
    have hp2 : a.eval (.tmp 2) = .pointer (some ⟨w.heap.size, 0, none⟩) := (hrest 2 (by intro iq2 hiq2; (repeat' split) <;> omega)).trans rfl
    have fp2 := ev hp2
    have hx2 : W.heap[w.heap.size]? = some (.cells #[.int .i64 4, .string xs, .int .i64 vk, .bool vb, .int .i64 vn, .string vs, .slice none 0 0, .slice none 0 0, .slice (some ⟨kg, ko, none⟩) 1 kc, .slice np m nc] 28 (0, 0)) := (hb.block _ (lt_of_row rw30)).trans rw30
    clear hrest
    obtain rfl | rfl | rfl | rfl | rfl | rfl : iq = 0 ∨ iq = 1 ∨ iq = 2 ∨ iq = 3 ∨ iq = 4 ∨ iq = 5 := by omega
    · clear hiq
      clear hk
      refine ⟨_, rfl, rfl, rfl, wp_value (v := .pointer (some ⟨w.heap.size, 8, none⟩)) (w' := W) ?_ ⟨_, rfl, Below.refl _ _, rfl⟩⟩
      go_simp
    · clear hiq
      have e0 : a.eval (.tmp 10) = .pointer (some ⟨w.heap.size, 8, none⟩) := hk 0 (mem_of (by kernel_rfl))
      have f0 := ev e0
      have hc8 := cell_of_row W w.heap.size 8 _ _ _ hx2
      clear hk
      refine ⟨_, rfl, rfl, rfl, wp_value (v := .slice (some ⟨kg, ko, none⟩) 1 kc) (w' := W) ?_ ⟨_, rfl, Below.refl _ _, rfl⟩⟩
      go_simp
    · clear hiq
      have e1 : a.eval (.tmp 11) = .slice (some ⟨kg, ko, none⟩) 1 kc := hk 1 (mem_of (by kernel_rfl))
      have f1 := ev e1
      clear hk
      refine ⟨_, rfl, rfl, rfl, wp_value (v := .int .i64 1) (w' := W) ?_ ⟨_, rfl, Below.refl _ _, rfl⟩⟩
      go_simp
    · clear hiq
      have hc0 := cell_of_row W w.heap.size 0 _ _ _ hx2
      have hc1 := cell_of_row W w.heap.size 1 _ _ _ hx2
      have hc2 := cell_of_row W w.heap.size 2 _ _ _ hx2
      have hc3 := cell_of_row W w.heap.size 3 _ _ _ hx2
      have hc4 := cell_of_row W w.heap.size 4 _ _ _ hx2
      have hc5 := cell_of_row W w.heap.size 5 _ _ _ hx2
      have hc6 := cell_of_row W w.heap.size 6 _ _ _ hx2
      have hc7 := cell_of_row W w.heap.size 7 _ _ _ hx2
      have hc8 := cell_of_row W w.heap.size 8 _ _ _ hx2
      have hc9 := cell_of_row W w.heap.size 9 _ _ _ hx2
      clear hk
      refine ⟨_, rfl, rfl, rfl, wp_value (v := .agg #[.int .i64 4, .string xs, .int .i64 vk, .bool vb, .int .i64 vn, .string vs, .slice none 0 0, .slice none 0 0, .slice (some ⟨kg, ko, none⟩) 1 kc, .slice np m nc]) (w' := W) ?_ ⟨_, rfl, Below.refl _ _, rfl⟩⟩
      go_simp
    · clear hiq
      have e3 : a.eval (.tmp 13) = .agg #[.int .i64 4, .string xs, .int .i64 vk, .bool vb, .int .i64 vn, .string vs, .slice none 0 0, .slice none 0 0, .slice (some ⟨kg, ko, none⟩) 1 kc, .slice np m nc] := hk 3 (mem_of (by kernel_rfl))
      have f3 := ev e3
      clear hk
      refine ⟨_, rfl, rfl, rfl, wp_enter (f := 39) (args := #[.agg #[.int .i64 4, .string xs, .int .i64 vk, .bool vb, .int .i64 vn, .string vs, .slice none 0 0, .slice none 0 0, .slice (some ⟨kg, ko, none⟩) 1 kc, .slice np m nc]]) ?_ ((kk W).mono ?_)⟩
      · go_simp
      · rintro e w2 ⟨rfl, hb2⟩
        exact ⟨_, rfl, _, rfl, hb2, rfl⟩
    · clear hiq
      have e2 : a.eval (.tmp 12) = .int .i64 1 := hk 2 (mem_of (by kernel_rfl))
      have f2 := ev e2
      have e4 : a.eval (.tmp 14) = .int .i64 1 := hk 4 (mem_of (by kernel_rfl))
      have f4 := ev e4
      clear hk
      refine ⟨_, rfl, rfl, rfl, wp_value (v := .bool false) (w' := W) ?_ ⟨_, rfl, Below.refl _ _, rfl⟩⟩
      go_simp
  case post =>
    intro V1 W hbW hV
    have v5 : V1 5 = .bool false := hV 5 (by omega)
    have bR : Hid (W.heap[w.heap.size]? = some (.cells #[.int .i64 4, .string xs, .int .i64 vk, .bool vb, .int .i64 vn, .string vs, .slice none 0 0, .slice none 0 0, .slice (some ⟨kg, ko, none⟩) 1 kc, .slice np m nc] 28 (0, 0)) ∧ W.heap[w.heap.size + 1]? = some (.cells #[.int .i64 dk, .bool db, .int .i64 dn, .string ds, .slice dp dm dc, .slice dq dl de] 25 (0, 0)) ∧ W.heap[w.heap.size + 1 + 1]? = some (.cells #[.int .i64 0, .bool false, .int .i64 0, .string ⟨#[]⟩, .slice none 0 0, .slice none 0 0] 25 (0, 0)) ∧ Below w.heap.size w W) := ⟨Below.row hbW aR.out.1, Below.row hbW aR.out.2.1, Below.row hbW aR.out.2.2.1, aR.out.2.2.2.trans (hbW.mono aR.out.2.2.2.size)⟩
    clear hV kk hbW aR rw30
    simp only [putAll, Nat.reduceAdd]
    rw [v5]
    simp only [Act.put, List.setIfInBounds_toArray, List.set_cons_zero, List.set_cons_succ]
    change wpList _ _ _ [] _ _
    have hlt : Hid (w.heap.size < W.heap.size) := lt_of_row bR.out.1
    have ka := HALL.out W bR.out.2.2.2
    have cx0 : W.cell? ⟨w.heap.size, 0, none⟩ = some (.int .i64 4) := cell_of_row W _ 0 _ _ _ bR.out.1
    have cx8 : W.cell? ⟨w.heap.size, 8, none⟩ = some (.slice (some ⟨kg, ko, none⟩) 1 kc) := cell_of_row W _ 8 _ _ _ bR.out.1
    have cxd0 : W.cell? ⟨w.heap.size + 1, 0, none⟩ = some (.int .i64 dk) := cell_of_row W _ 0 _ _ _ bR.out.2.1
    have cxd1 : W.cell? ⟨w.heap.size + 1, 1, none⟩ = some (.bool db) := cell_of_row W _ 1 _ _ _ bR.out.2.1
    have cxd2 : W.cell? ⟨w.heap.size + 1, 2, none⟩ = some (.int .i64 dn) := cell_of_row W _ 2 _ _ _ bR.out.2.1
    have cxd3 : W.cell? ⟨w.heap.size + 1, 3, none⟩ = some (.string ds) := cell_of_row W _ 3 _ _ _ bR.out.2.1
    have cxd4 : W.cell? ⟨w.heap.size + 1, 4, none⟩ = some (.slice dp dm dc) := cell_of_row W _ 4 _ _ _ bR.out.2.1
    have cxd5 : W.cell? ⟨w.heap.size + 1, 5, none⟩ = some (.slice dq dl de) := cell_of_row W _ 5 _ _ _ bR.out.2.1
    clear HALL
    go_wp2_with fail
    refine ka.mono ?_
    rintro r w5 ⟨q, k, rfl, hown, hb5⟩
    obtain ⟨g, rfl, hcap⟩ : ∃ g, q = some ⟨g, 0, none⟩ ∧ 1 ≤ k ∧ k ≤ maxLen := by
      rcases hown.2 with ⟨_, h⟩ | ⟨g, cap, cur, h1, h2, h3, h4, h5, _⟩
      · cases h
      · injection h1 with h1 _ h7
        exact ⟨g, h1, by omega, by omega⟩
    have ks := HS.out g k hcap w5 (fun j hj => hown.cellAt j hj)
    have cR : Hid (w5.heap[w.heap.size]? = some (.cells #[.int .i64 4, .string xs, .int .i64 vk, .bool vb, .int .i64 vn, .string vs, .slice none 0 0, .slice none 0 0, .slice (some ⟨kg, ko, none⟩) 1 kc, .slice np m nc] 28 (0, 0)) ∧ w5.heap[w.heap.size + 1]? = some (.cells #[.int .i64 dk, .bool db, .int .i64 dn, .string ds, .slice dp dm dc, .slice dq dl de] 25 (0, 0)) ∧ w5.heap[w.heap.size + 1 + 1]? = some (.cells #[.int .i64 0, .bool false, .int .i64 0, .string ⟨#[]⟩, .slice none 0 0, .slice none 0 0] 25 (0, 0)) ∧ Below w.heap.size w w5) := ⟨Below.row hb5 bR.out.1, Below.row hb5 bR.out.2.1, Below.row hb5 bR.out.2.2.1, bR.out.2.2.2.trans (hb5.mono bR.out.2.2.2.size)⟩
    have dx0 : w5.cell? ⟨w.heap.size, 0, none⟩ = some (.int .i64 4) := cell_of_row w5 _ 0 _ _ _ cR.out.1
    have dx1 : w5.cell? ⟨w.heap.size, 1, none⟩ = some (.string xs) := cell_of_row w5 _ 1 _ _ _ cR.out.1
    have dx2 : w5.cell? ⟨w.heap.size, 2, none⟩ = some (.int .i64 vk) := cell_of_row w5 _ 2 _ _ _ cR.out.1
    have dx3 : w5.cell? ⟨w.heap.size, 3, none⟩ = some (.bool vb) := cell_of_row w5 _ 3 _ _ _ cR.out.1
    have dx4 : w5.cell? ⟨w.heap.size, 4, none⟩ = some (.int .i64 vn) := cell_of_row w5 _ 4 _ _ _ cR.out.1
    have dx5 : w5.cell? ⟨w.heap.size, 5, none⟩ = some (.string vs) := cell_of_row w5 _ 5 _ _ _ cR.out.1
    have dx6 : w5.cell? ⟨w.heap.size, 6, none⟩ = some (.slice none 0 0) := cell_of_row w5 _ 6 _ _ _ cR.out.1
    have dx7 : w5.cell? ⟨w.heap.size, 7, none⟩ = some (.slice none 0 0) := cell_of_row w5 _ 7 _ _ _ cR.out.1
    have dx8 : w5.cell? ⟨w.heap.size, 8, none⟩ = some (.slice (some ⟨kg, ko, none⟩) 1 kc) := cell_of_row w5 _ 8 _ _ _ cR.out.1
    have dx9 : w5.cell? ⟨w.heap.size, 9, none⟩ = some (.slice np m nc) := cell_of_row w5 _ 9 _ _ _ cR.out.1
    clear bR hb5 ka cx0 cx8 cxd0 cxd1 cxd2 cxd3 cxd4 cxd5 HS hown
    go_wp2_with fail
    refine ks.mono ?_
    rintro r w6 ⟨rfl, hb6⟩
    have dR : Hid (w6.heap[w.heap.size]? = some (.cells #[.int .i64 4, .string xs, .int .i64 vk, .bool vb, .int .i64 vn, .string vs, .slice none 0 0, .slice none 0 0, .slice (some ⟨kg, ko, none⟩) 1 kc, .slice np m nc] 28 (0, 0)) ∧ w6.heap[w.heap.size + 1]? = some (.cells #[.int .i64 dk, .bool db, .int .i64 dn, .string ds, .slice dp dm dc, .slice dq dl de] 25 (0, 0)) ∧ w6.heap[w.heap.size + 1 + 1]? = some (.cells #[.int .i64 0, .bool false, .int .i64 0, .string ⟨#[]⟩, .slice none 0 0, .slice none 0 0] 25 (0, 0)) ∧ Below w.heap.size w w6) := ⟨Below.row hb6 cR.out.1, Below.row hb6 cR.out.2.1, Below.row hb6 cR.out.2.2.1, cR.out.2.2.2.trans (hb6.mono cR.out.2.2.2.size)⟩
    clear ks
    go_wp2_with (first | (refine wpList_put rfl 25 (.tmp 4) (.tmp 71) rfl rfl rfl rfl dR.out.2.2.1 rfl info25 (by simp [Value.oneCell']) ?_) | fail)
    exact bodyPost_ret (results_row_tmp Tryz.results21 _ _ (w.heap.size + 1 + 1) 25 _ (0, 0) _ rfl (put_row _ dR.out.2.2.1 rfl) Tryz.underlying25 rfl info25) rfl ⟨rfl, put_below dR.out.2.2.2 _ (by omega) _⟩
end Go.Proofs.YtnnclhmhbmbkfaaGreatDoor
