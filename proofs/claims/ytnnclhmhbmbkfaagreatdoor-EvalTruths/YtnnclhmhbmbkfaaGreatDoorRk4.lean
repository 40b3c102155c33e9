/- AND, OR and NOT of literals: Eval. -/
import Derived.Test.YtnnclhmhbmbkfaaGreatDoorRk3
namespace Go.Proofs.YtnnclhmhbmbkfaaGreatDoor
open Go.RowKit Go.Shelf
attribute [local go_sem] Oper.semAt_some
def litR (a : Lf) : XR := ⟨1, ⟨#[]⟩, a.k, a.b, a.n, a.s, none, 0, 0, none, 0, 0⟩
/- What AND (false) or OR (true) of two literals comes to. -/
def jnB (o : Bool) (a b : Lf) : Bool := if trE a.k = 0 then (if trB a.k a.b = o then o else trB b.k b.b) else false
def jnE (o : Bool) (a b : Lf) : Int := if trE a.k = 0 then (if trB a.k a.b = o then 0 else trE b.k) else 131
theorem tr_cases (a : Lf) : (trE a.k = 0) ∨ (trE a.k = 131 ∧ trB a.k a.b = false) := by
  unfold trE trB
  by_cases h1 : a.k = 1
  · left; rw [if_pos h1]
  · by_cases h0 : a.k = 0
    · left; rw [if_neg h1, if_pos h0]
    · right; rw [if_neg h1, if_neg h0, if_neg h1]; exact ⟨rfl, rfl⟩
theorem truth_lit (y : Lf) (dk : Int) (db : Bool) (dn : Int) (ds : ByteArray) (dp : Option Addr) (dm dc : Nat) (dq : Option Addr) (dl de : Nat) (w : World) : Calls Tryz.prog 30 #[.agg #[.int .i64 1, .string ⟨#[]⟩, .int .i64 y.k, .bool y.b, .int .i64 y.n, .string y.s, .slice none 0 0, .slice none 0 0, .slice none 0 0, .slice none 0 0], .agg #[.int .i64 dk, .bool db, .int .i64 dn, .string ds, .slice dp dm dc, .slice dq dl de]] w fun r w' => r = .returned (.tuple #[.bool (trB y.k y.b), .int .i64 (trE y.k)]) ∧ Below w.heap.size w w' :=
  truth_ok 1 ⟨#[]⟩ y.k y.b y.n y.s none 0 0 none 0 0 ⟨y.k, y.b, y.n, y.s, none, 0, none, 0⟩ dk db dn ds dp dm dc dq dl de w (fun W _ => reckon_lit ⟨#[]⟩ y none 0 none 0 0 dk db dn ds dp dm dc dq dl de W)
theorem joined_and (vk : Int) (vb : Bool) (vn : Int) (vs : ByteArray) (kg ko kc : Nat) (np : Option Addr) (m nc : Nat) (dk : Int) (db : Bool) (dn : Int) (ds : ByteArray) (dp : Option Addr) (dm dc : Nat) (dq : Option Addr) (dl de : Nat) (w : World) (hkg : kg < w.heap.size) (a b : Lf) (h0 : At10 w kg ko (litR a)) (h1 : At10 w kg (ko + 10) (litR b)) :
    Calls Tryz.prog 41 #[.agg #[.int .i64 6, .string ⟨#[65, 78, 68]⟩, .int .i64 vk, .bool vb, .int .i64 vn, .string vs, .slice none 0 0, .slice none 0 0, .slice (some ⟨kg, ko, none⟩) 2 kc, .slice np m nc], .agg #[.int .i64 dk, .bool db, .int .i64 dn, .string ds, .slice dp dm dc, .slice dq dl de]] w fun r w' => r = .returned (.tuple #[.bool (jnB false a b), .int .i64 (jnE false a b)]) ∧ Below w.heap.size w w' := by
  refine joined_and_all vk vb vn vs kg ko kc np m nc dk db dn ds dp dm dc dq dl de w hkg _ _ (litR a) h0 (fun W _ => truth_lit a dk db dn ds dp dm dc dq dl de W) _ _ (litR b) h1 (fun W _ => truth_lit b dk db dn ds dp dm dc dq dl de W) _ _ ?_
  unfold jnB jnE
  rcases tr_cases a with h | ⟨h, hB⟩
  · rw [if_pos h, if_pos h]
    by_cases hs : trB a.k a.b = false
    · rw [if_pos hs, if_pos hs]
      exact Or.inr (Or.inl ⟨h, hs, rfl, rfl⟩)
    · rw [if_neg hs, if_neg hs]
      exact Or.inr (Or.inr ⟨h, by revert hs; cases trB a.k a.b <;> simp, rfl, rfl⟩)
  · have e0 : ¬ trE a.k = 0 := by omega
    rw [if_neg e0, if_neg e0]
    exact Or.inl ⟨h, hB, rfl, rfl⟩
theorem joined_or (vk : Int) (vb : Bool) (vn : Int) (vs : ByteArray) (kg ko kc : Nat) (np : Option Addr) (m nc : Nat) (dk : Int) (db : Bool) (dn : Int) (ds : ByteArray) (dp : Option Addr) (dm dc : Nat) (dq : Option Addr) (dl de : Nat) (w : World) (hkg : kg < w.heap.size) (a b : Lf) (h0 : At10 w kg ko (litR a)) (h1 : At10 w kg (ko + 10) (litR b)) :
    Calls Tryz.prog 41 #[.agg #[.int .i64 6, .string ⟨#[79, 82]⟩, .int .i64 vk, .bool vb, .int .i64 vn, .string vs, .slice none 0 0, .slice none 0 0, .slice (some ⟨kg, ko, none⟩) 2 kc, .slice np m nc], .agg #[.int .i64 dk, .bool db, .int .i64 dn, .string ds, .slice dp dm dc, .slice dq dl de]] w fun r w' => r = .returned (.tuple #[.bool (jnB true a b), .int .i64 (jnE true a b)]) ∧ Below w.heap.size w w' := by
  refine joined_or_all vk vb vn vs kg ko kc np m nc dk db dn ds dp dm dc dq dl de w hkg _ _ (litR a) h0 (fun W _ => truth_lit a dk db dn ds dp dm dc dq dl de W) _ _ (litR b) h1 (fun W _ => truth_lit b dk db dn ds dp dm dc dq dl de W) _ _ ?_
  unfold jnB jnE
  rcases tr_cases a with h | ⟨h, hB⟩
  · rw [if_pos h, if_pos h]
    by_cases hs : trB a.k a.b = true
    · rw [if_pos hs, if_pos hs]
      exact Or.inr (Or.inl ⟨h, hs, rfl, rfl⟩)
    · rw [if_neg hs, if_neg hs]
      exact Or.inr (Or.inr ⟨h, by revert hs; cases trB a.k a.b <;> simp, rfl, rfl⟩)
  · have e0 : ¬ trE a.k = 0 := by omega
    rw [if_neg e0, if_neg e0]
    exact Or.inl ⟨h, hB, rfl, rfl⟩
set_option maxRecDepth 100000 in
set_option maxHeartbeats 4000000 in
theorem reckon_tr (sg : ByteArray) (ha : ∀ W : World, Calls Tryz.prog 40 #[.string sg] W fun r w' => r = .returned (.int .i64 1) ∧ w' = W) (vk : Int) (vb : Bool) (vn : Int) (vs : ByteArray) (kg ko kc : Nat) (np : Option Addr) (m nc : Nat) (B : Bool) (E : Int) (dk : Int) (db : Bool) (dn : Int) (ds : ByteArray) (dp : Option Addr) (dm dc : Nat) (dq : Option Addr) (dl de : Nat) (w : World) (hj : ∀ W, Below w.heap.size w W → Calls Tryz.prog 41 #[.agg #[.int .i64 6, .string sg, .int .i64 vk, .bool vb, .int .i64 vn, .string vs, .slice none 0 0, .slice none 0 0, .slice (some ⟨kg, ko, none⟩) 2 kc, .slice np m nc], .agg #[.int .i64 dk, .bool db, .int .i64 dn, .string ds, .slice dp dm dc, .slice dq dl de]] W fun r W' => r = .returned (.tuple #[.bool B, .int .i64 E]) ∧ Below W.heap.size W W') :
    Calls Tryz.prog 21 #[.agg #[.int .i64 6, .string sg, .int .i64 vk, .bool vb, .int .i64 vn, .string vs, .slice none 0 0, .slice none 0 0, .slice (some ⟨kg, ko, none⟩) 2 kc, .slice np m nc], .agg #[.int .i64 dk, .bool db, .int .i64 dn, .string ds, .slice dp dm dc, .slice dq dl de]] w fun r w' => r = .returned (.tuple #[.agg #[.int .i64 1, .bool B, .int .i64 0, .string ⟨#[]⟩, .slice none 0 0, .slice none 0 0], .int .i64 E]) ∧ Below w.heap.size w w' := by
  have HJ : Hid (∀ W, Below w.heap.size w W → Calls Tryz.prog 41 #[.agg #[.int .i64 6, .string sg, .int .i64 vk, .bool vb, .int .i64 vn, .string vs, .slice none 0 0, .slice none 0 0, .slice (some ⟨kg, ko, none⟩) 2 kc, .slice np m nc], .agg #[.int .i64 dk, .bool db, .int .i64 dn, .string ds, .slice dp dm dc, .slice dq dl de]] W fun r W' => r = .returned (.tuple #[.bool B, .int .i64 E]) ∧ Below W.heap.size W W') := hj
  clear hj
  have kk := kids_bin sg 1 rfl ha (.int .i64 vk) (.bool vb) (.int .i64 vn) (.string vs) (.slice none 0 0) (.slice none 0 0) (.slice (some ⟨kg, ko, none⟩) 2 kc) (.slice np m nc)
  obtain ⟨w3, hw3⟩ : ∃ u, (((w.alloc (.cells #[.int .i64 6, .string sg, .int .i64 vk, .bool vb, .int .i64 vn, .string vs, .slice none 0 0, .slice none 0 0, .slice (some ⟨kg, ko, none⟩) 2 kc, .slice np m nc] 28)).alloc (.cells #[.int .i64 dk, .bool db, .int .i64 dn, .string ds, .slice dp dm dc, .slice dq dl de] 25)).alloc (.cells #[.int .i64 0, .bool false, .int .i64 0, .string ⟨#[]⟩, .slice none 0 0, .slice none 0 0] 25)) = u := ⟨_, rfl⟩
  obtain ⟨rw30, rw31, rw32, bw3⟩ := alloc3 hw3
  have HWw3 := mkHid hw3
  have aR : Hid (w3.heap[w.heap.size]? = some (.cells #[.int .i64 6, .string sg, .int .i64 vk, .bool vb, .int .i64 vn, .string vs, .slice none 0 0, .slice none 0 0, .slice (some ⟨kg, ko, none⟩) 2 kc, .slice np m nc] 28 (0, 0)) ∧ w3.heap[w.heap.size + 1]? = some (.cells #[.int .i64 dk, .bool db, .int .i64 dn, .string ds, .slice dp dm dc, .slice dq dl de] 25 (0, 0)) ∧ w3.heap[w.heap.size + 1 + 1]? = some (.cells #[.int .i64 0, .bool false, .int .i64 0, .string ⟨#[]⟩, .slice none 0 0, .slice none 0 0] 25 (0, 0)) ∧ Below w.heap.size w w3) := ⟨rw30, rw31, rw32, bw3⟩
  clear hw3 rw31 rw32 bw3
  go_enter Tryz.func21, Tryz.ntmps21
  go_wp2_with (first | rw [HWw3.out] | fail)
  refine any_tail (by kernel_rfl) 6 (by exact Nat.le_of_ble_eq_true rfl) (fun i => i + 10) (mixR [] [.pointer (some ⟨w.heap.size, 8, none⟩), .slice (some ⟨kg, ko, none⟩) 2 kc, .int .i64 2, .agg #[.int .i64 6, .string sg, .int .i64 vk, .bool vb, .int .i64 vn, .string vs, .slice none 0 0, .slice none 0 0, .slice (some ⟨kg, ko, none⟩) 2 kc, .slice np m nc], .int .i64 2, .bool false]) (by kernel_rfl) (by kernel_rfl) (by kernel_rfl) (by kernel_rfl) (mixR_later _ _ (stab_nil)) ?step ?post
  case step =>
    intro iq hiq a W hrest hb hk
    have hp2 : a.eval (.tmp 2) = .pointer (some ⟨w.heap.size, 0, none⟩) := (hrest 2 (by intro iq2 hiq2; (repeat' split) <;> omega)).trans rfl
    have fp2 := ev hp2
    have hx2 : W.heap[w.heap.size]? = some (.cells #[.int .i64 6, .string sg, .int .i64 vk, .bool vb, .int .i64 vn, .string vs, .slice none 0 0, .slice none 0 0, .slice (some ⟨kg, ko, none⟩) 2 kc, .slice np m nc] 28 (0, 0)) := (hb.block _ (lt_of_row rw30)).trans rw30
    clear hrest
    obtain rfl | rfl | rfl | rfl | rfl | rfl : iq = 0 ∨ iq = 1 ∨ iq = 2 ∨ iq = 3 ∨ iq = 4 ∨ iq = 5 := by omega
    · clear hiq
      clear hk
      refine ⟨_, rfl, rfl, rfl, wp_value (v := .pointer (some ⟨w.heap.size, 8, none⟩)) (w' := W) ?_ ⟨_, rfl, Below.refl _ _, rfl⟩⟩
      go_simp
    · clear hiq
      have e0 : a.eval (.tmp 10) = .pointer (some ⟨w.heap.size, 8, none⟩) := hk 0 (mem_of (by kernel_rfl))
      have f0 := ev e0
      have hc8 := cell_of_row W w.heap.size 8 _ _ _ hx2
      clear hk
      refine ⟨_, rfl, rfl, rfl, wp_value (v := .slice (some ⟨kg, ko, none⟩) 2 kc) (w' := W) ?_ ⟨_, rfl, Below.refl _ _, rfl⟩⟩
      go_simp
    · clear hiq
      have e1 : a.eval (.tmp 11) = .slice (some ⟨kg, ko, none⟩) 2 kc := hk 1 (mem_of (by kernel_rfl))
      have f1 := ev e1
      clear hk
      refine ⟨_, rfl, rfl, rfl, wp_value (v := .int .i64 2) (w' := W) ?_ ⟨_, rfl, Below.refl _ _, rfl⟩⟩
      go_simp
    · clear hiq
      have hc0 := cell_of_row W w.heap.size 0 _ _ _ hx2
      have hc1 := cell_of_row W w.heap.size 1 _ _ _ hx2
      have hc2 := cell_of_row W w.heap.size 2 _ _ _ hx2
      have hc3 := cell_of_row W w.heap.size 3 _ _ _ hx2
      have hc4 := cell_of_row W w.heap.size 4 _ _ _ hx2
      have hc5 := cell_of_row W w.heap.size 5 _ _ _ hx2
      have hc6 := cell_of_row W w.heap.size 6 _ _ _ hx2
      have hc7 := cell_of_row W w.heap.size 7 _ _ _ hx2
      have hc8 := cell_of_row W w.heap.size 8 _ _ _ hx2
      have hc9 := cell_of_row W w.heap.size 9 _ _ _ hx2
      clear hk
      refine ⟨_, rfl, rfl, rfl, wp_value (v := .agg #[.int .i64 6, .string sg, .int .i64 vk, .bool vb, .int .i64 vn, .string vs, .slice none 0 0, .slice none 0 0, .slice (some ⟨kg, ko, none⟩) 2 kc, .slice np m nc]) (w' := W) ?_ ⟨_, rfl, Below.refl _ _, rfl⟩⟩
      go_simp
    · clear hiq
      have e3 : a.eval (.tmp 13) = .agg #[.int .i64 6, .string sg, .int .i64 vk, .bool vb, .int .i64 vn, .string vs, .slice none 0 0, .slice none 0 0, .slice (some ⟨kg, ko, none⟩) 2 kc, .slice np m nc] := hk 3 (mem_of (by kernel_rfl))
      have f3 := ev e3
      clear hk
      refine ⟨_, rfl, rfl, rfl, wp_enter (f := 39) (args := #[.agg #[.int .i64 6, .string sg, .int .i64 vk, .bool vb, .int .i64 vn, .string vs, .slice none 0 0, .slice none 0 0, .slice (some ⟨kg, ko, none⟩) 2 kc, .slice np m nc]]) ?_ ((kk W).mono ?_)⟩
      · go_simp
      · rintro e w2 ⟨rfl, hb2⟩
        exact ⟨_, rfl, _, rfl, hb2, rfl⟩
    · clear hiq
      have e2 : a.eval (.tmp 12) = .int .i64 2 := hk 2 (mem_of (by kernel_rfl))
      have f2 := ev e2
      have e4 : a.eval (.tmp 14) = .int .i64 2 := hk 4 (mem_of (by kernel_rfl))
      have f4 := ev e4
      clear hk
      refine ⟨_, rfl, rfl, rfl, wp_value (v := .bool false) (w' := W) ?_ ⟨_, rfl, Below.refl _ _, rfl⟩⟩
      go_simp
  case post =>
    intro V1 W hbW hV
    have v5 : V1 5 = .bool false := hV 5 (by omega)
    have bR : Hid (W.heap[w.heap.size]? = some (.cells #[.int .i64 6, .string sg, .int .i64 vk, .bool vb, .int .i64 vn, .string vs, .slice none 0 0, .slice none 0 0, .slice (some ⟨kg, ko, none⟩) 2 kc, .slice np m nc] 28 (0, 0)) ∧ W.heap[w.heap.size + 1]? = some (.cells #[.int .i64 dk, .bool db, .int .i64 dn, .string ds, .slice dp dm dc, .slice dq dl de] 25 (0, 0)) ∧ W.heap[w.heap.size + 1 + 1]? = some (.cells #[.int .i64 0, .bool false, .int .i64 0, .string ⟨#[]⟩, .slice none 0 0, .slice none 0 0] 25 (0, 0)) ∧ Below w.heap.size w W) := ⟨Below.row hbW aR.out.1, Below.row hbW aR.out.2.1, Below.row hbW aR.out.2.2.1, aR.out.2.2.2.trans (hbW.mono aR.out.2.2.2.size)⟩
    clear hV kk hbW aR rw30
    simp only [putAll, Nat.reduceAdd]
    rw [v5]
    simp only [Act.put, List.setIfInBounds_toArray, List.set_cons_zero, List.set_cons_succ]
    change wpList _ _ _ [] _ _
    have hlt : Hid (w.heap.size < W.heap.size) := lt_of_row bR.out.1
    have ka := ha
    have kj := HJ.out W bR.out.2.2.2
    have kb := bool_any B
    change ∀ W, Calls Tryz.prog 32 #[.bool B] W (fun r w' => r = .returned (.agg #[.int .i64 1, .bool B, .int .i64 0, .string ⟨#[]⟩, .slice none 0 0, .slice none 0 0]) ∧ Below W.heap.size W w') at kb
    have cx0 : W.cell? ⟨w.heap.size, 0, none⟩ = some (.int .i64 6) := cell_of_row W _ 0 _ _ _ bR.out.1
    have cx1 : W.cell? ⟨w.heap.size, 1, none⟩ = some (.string sg) := cell_of_row W _ 1 _ _ _ bR.out.1
    have cx2 : W.cell? ⟨w.heap.size, 2, none⟩ = some (.int .i64 vk) := cell_of_row W _ 2 _ _ _ bR.out.1
    have cx3 : W.cell? ⟨w.heap.size, 3, none⟩ = some (.bool vb) := cell_of_row W _ 3 _ _ _ bR.out.1
    have cx4 : W.cell? ⟨w.heap.size, 4, none⟩ = some (.int .i64 vn) := cell_of_row W _ 4 _ _ _ bR.out.1
    have cx5 : W.cell? ⟨w.heap.size, 5, none⟩ = some (.string vs) := cell_of_row W _ 5 _ _ _ bR.out.1
    have cx6 : W.cell? ⟨w.heap.size, 6, none⟩ = some (.slice none 0 0) := cell_of_row W _ 6 _ _ _ bR.out.1
    have cx7 : W.cell? ⟨w.heap.size, 7, none⟩ = some (.slice none 0 0) := cell_of_row W _ 7 _ _ _ bR.out.1
    have cx8 : W.cell? ⟨w.heap.size, 8, none⟩ = some (.slice (some ⟨kg, ko, none⟩) 2 kc) := cell_of_row W _ 8 _ _ _ bR.out.1
    have cx9 : W.cell? ⟨w.heap.size, 9, none⟩ = some (.slice np m nc) := cell_of_row W _ 9 _ _ _ bR.out.1
    have cxd0 : W.cell? ⟨w.heap.size + 1, 0, none⟩ = some (.int .i64 dk) := cell_of_row W _ 0 _ _ _ bR.out.2.1
    have cxd1 : W.cell? ⟨w.heap.size + 1, 1, none⟩ = some (.bool db) := cell_of_row W _ 1 _ _ _ bR.out.2.1
    have cxd2 : W.cell? ⟨w.heap.size + 1, 2, none⟩ = some (.int .i64 dn) := cell_of_row W _ 2 _ _ _ bR.out.2.1
    have cxd3 : W.cell? ⟨w.heap.size + 1, 3, none⟩ = some (.string ds) := cell_of_row W _ 3 _ _ _ bR.out.2.1
    have cxd4 : W.cell? ⟨w.heap.size + 1, 4, none⟩ = some (.slice dp dm dc) := cell_of_row W _ 4 _ _ _ bR.out.2.1
    have cxd5 : W.cell? ⟨w.heap.size + 1, 5, none⟩ = some (.slice dq dl de) := cell_of_row W _ 5 _ _ _ bR.out.2.1
    clear HJ
    go_wp2_with fail
    refine (ka _).mono ?_
    rintro r w4 ⟨rfl, rfl⟩
    go_wp2_with fail
    refine kj.mono ?_
    rintro r w5 ⟨rfl, hb5⟩
    have cR : Hid (w5.heap[w.heap.size]? = some (.cells #[.int .i64 6, .string sg, .int .i64 vk, .bool vb, .int .i64 vn, .string vs, .slice none 0 0, .slice none 0 0, .slice (some ⟨kg, ko, none⟩) 2 kc, .slice np m nc] 28 (0, 0)) ∧ w5.heap[w.heap.size + 1]? = some (.cells #[.int .i64 dk, .bool db, .int .i64 dn, .string ds, .slice dp dm dc, .slice dq dl de] 25 (0, 0)) ∧ w5.heap[w.heap.size + 1 + 1]? = some (.cells #[.int .i64 0, .bool false, .int .i64 0, .string ⟨#[]⟩, .slice none 0 0, .slice none 0 0] 25 (0, 0)) ∧ Below w.heap.size w w5) := ⟨Below.row hb5 bR.out.1, Below.row hb5 bR.out.2.1, Below.row hb5 bR.out.2.2.1, bR.out.2.2.2.trans (hb5.mono bR.out.2.2.2.size)⟩
    clear bR hb5 ka kj cx0 cx1 cx2 cx3 cx4 cx5 cx6 cx7 cx8 cx9 cxd0 cxd1 cxd2 cxd3 cxd4 cxd5
    go_wp2_with fail
    refine (kb _).mono ?_
    rintro r w6 ⟨rfl, hb6⟩
    have dR : Hid (w6.heap[w.heap.size]? = some (.cells #[.int .i64 6, .string sg, .int .i64 vk, .bool vb, .int .i64 vn, .string vs, .slice none 0 0, .slice none 0 0, .slice (some ⟨kg, ko, none⟩) 2 kc, .slice np m nc] 28 (0, 0)) ∧ w6.heap[w.heap.size + 1]? = some (.cells #[.int .i64 dk, .bool db, .int .i64 dn, .string ds, .slice dp dm dc, .slice dq dl de] 25 (0, 0)) ∧ w6.heap[w.heap.size + 1 + 1]? = some (.cells #[.int .i64 0, .bool false, .int .i64 0, .string ⟨#[]⟩, .slice none 0 0, .slice none 0 0] 25 (0, 0)) ∧ Below w.heap.size w w6) := ⟨Below.row hb6 cR.out.1, Below.row hb6 cR.out.2.1, Below.row hb6 cR.out.2.2.1, cR.out.2.2.2.trans (hb6.mono cR.out.2.2.2.size)⟩
    clear kb
    go_wp2_with (first | (refine wpList_put rfl 25 (.tmp 4) (.tmp 33) rfl rfl rfl rfl dR.out.2.2.1 rfl info25 (by simp [Value.oneCell']) ?_) | fail)
    exact bodyPost_ret (results_row_tmp Tryz.results21 _ _ (w.heap.size + 1 + 1) 25 _ (0, 0) _ rfl (put_row _ dR.out.2.2.1 rfl) Tryz.underlying25 rfl info25) rfl ⟨rfl, put_below dR.out.2.2.2 _ (by omega) _⟩
set_option maxRecDepth 100000 in
set_option maxHeartbeats 4000000 in
theorem eval_ok (xk : Int) (xs : ByteArray) (vk : Int) (vb : Bool) (vn : Int) (vs : ByteArray) (kp : Option Addr) (kn kc : Nat) (np : Option Addr) (m nc : Nat) (y : Lf) (dk : Int) (db : Bool) (dn : Int) (ds : ByteArray) (dp : Option Addr) (dm dc : Nat) (dq : Option Addr) (dl de : Nat) (w : World) (hr : ∀ W, Below w.heap.size w W → Calls Tryz.prog 21 #[.agg #[.int .i64 xk, .string xs, .int .i64 vk, .bool vb, .int .i64 vn, .string vs, .slice none 0 0, .slice none 0 0, .slice kp kn kc, .slice np m nc], .agg #[.int .i64 dk, .bool db, .int .i64 dn, .string ds, .slice dp dm dc, .slice dq dl de]] W fun r W' => r = .returned (.tuple #[.agg #[.int .i64 y.k, .bool y.b, .int .i64 y.n, .string y.s, .slice none 0 0, .slice none 0 0], .int .i64 0]) ∧ Below W.heap.size W W') :
    Calls Tryz.prog 9 #[.agg #[.int .i64 xk, .string xs, .int .i64 vk, .bool vb, .int .i64 vn, .string vs, .slice none 0 0, .slice none 0 0, .slice kp kn kc, .slice np m nc], .agg #[.int .i64 dk, .bool db, .int .i64 dn, .string ds, .slice dp dm dc, .slice dq dl de]] w fun r w' => r = .returned (.tuple #[.agg #[.int .i64 y.k, .bool y.b, .int .i64 y.n, .string y.s, .slice none 0 0, .slice none 0 0], .int .i64 0]) ∧ Below w.heap.size w w' := by
  have kcl := V.clone_leaf y.k y.b y.n y.s
  change ∀ W, Calls Tryz.prog 22 #[.agg #[.int .i64 y.k, .bool y.b, .int .i64 y.n, .string y.s, .slice none 0 0, .slice none 0 0]] W (fun r w' => r = .returned (.agg #[.int .i64 y.k, .bool y.b, .int .i64 y.n, .string y.s, .slice none 0 0, .slice none 0 0]) ∧ Below W.heap.size W w') at kcl
  obtain ⟨w3, hw3⟩ : ∃ u, (((w.alloc (.cells #[.int .i64 xk, .string xs, .int .i64 vk, .bool vb, .int .i64 vn, .string vs, .slice none 0 0, .slice none 0 0, .slice kp kn kc, .slice np m nc] 28)).alloc (.cells #[.int .i64 dk, .bool db, .int .i64 dn, .string ds, .slice dp dm dc, .slice dq dl de] 25)).alloc (.cells #[.int .i64 0, .bool false, .int .i64 0, .string ⟨#[]⟩, .slice none 0 0, .slice none 0 0] 25)) = u := ⟨_, rfl⟩
  obtain ⟨rw30, rw31, rw32, bw3⟩ := alloc3 hw3
  have HWw3 := mkHid hw3
  have kr := hr w3 bw3
  have cx0 : w3.cell? ⟨w.heap.size, 0, none⟩ = some (.int .i64 xk) := cell_of_row w3 _ 0 _ _ _ rw30
  have cx1 : w3.cell? ⟨w.heap.size, 1, none⟩ = some (.string xs) := cell_of_row w3 _ 1 _ _ _ rw30
  have cx2 : w3.cell? ⟨w.heap.size, 2, none⟩ = some (.int .i64 vk) := cell_of_row w3 _ 2 _ _ _ rw30
  have cx3 : w3.cell? ⟨w.heap.size, 3, none⟩ = some (.bool vb) := cell_of_row w3 _ 3 _ _ _ rw30
  have cx4 : w3.cell? ⟨w.heap.size, 4, none⟩ = some (.int .i64 vn) := cell_of_row w3 _ 4 _ _ _ rw30
  have cx5 : w3.cell? ⟨w.heap.size, 5, none⟩ = some (.string vs) := cell_of_row w3 _ 5 _ _ _ rw30
  have cx6 : w3.cell? ⟨w.heap.size, 6, none⟩ = some (.slice none 0 0) := cell_of_row w3 _ 6 _ _ _ rw30
  have cx7 : w3.cell? ⟨w.heap.size, 7, none⟩ = some (.slice none 0 0) := cell_of_row w3 _ 7 _ _ _ rw30
  have cx8 : w3.cell? ⟨w.heap.size, 8, none⟩ = some (.slice kp kn kc) := cell_of_row w3 _ 8 _ _ _ rw30
  have cx9 : w3.cell? ⟨w.heap.size, 9, none⟩ = some (.slice np m nc) := cell_of_row w3 _ 9 _ _ _ rw30
  have cd0 : w3.cell? ⟨w.heap.size + 1, 0, none⟩ = some (.int .i64 dk) := cell_of_row w3 _ 0 _ _ _ rw31
  have cd1 : w3.cell? ⟨w.heap.size + 1, 1, none⟩ = some (.bool db) := cell_of_row w3 _ 1 _ _ _ rw31
  have cd2 : w3.cell? ⟨w.heap.size + 1, 2, none⟩ = some (.int .i64 dn) := cell_of_row w3 _ 2 _ _ _ rw31
  have cd3 : w3.cell? ⟨w.heap.size + 1, 3, none⟩ = some (.string ds) := cell_of_row w3 _ 3 _ _ _ rw31
  have cd4 : w3.cell? ⟨w.heap.size + 1, 4, none⟩ = some (.slice dp dm dc) := cell_of_row w3 _ 4 _ _ _ rw31
  have cd5 : w3.cell? ⟨w.heap.size + 1, 5, none⟩ = some (.slice dq dl de) := cell_of_row w3 _ 5 _ _ _ rw31
  have aR : Hid (w3.heap[w.heap.size]? = some (.cells #[.int .i64 xk, .string xs, .int .i64 vk, .bool vb, .int .i64 vn, .string vs, .slice none 0 0, .slice none 0 0, .slice kp kn kc, .slice np m nc] 28 (0, 0)) ∧ w3.heap[w.heap.size + 1]? = some (.cells #[.int .i64 dk, .bool db, .int .i64 dn, .string ds, .slice dp dm dc, .slice dq dl de] 25 (0, 0)) ∧ w3.heap[w.heap.size + 1 + 1]? = some (.cells #[.int .i64 0, .bool false, .int .i64 0, .string ⟨#[]⟩, .slice none 0 0, .slice none 0 0] 25 (0, 0)) ∧ Below w.heap.size w w3) := ⟨rw30, rw31, rw32, bw3⟩
  clear hw3 rw30 rw31 rw32 bw3 hr
  go_enter Tryz.func9, Tryz.ntmps9
  go_wp2_with (first | rw [HWw3.out] | fail)
  refine kr.mono ?_
  rintro r w4 ⟨rfl, hb4⟩
  have bR : Hid (w4.heap[w.heap.size]? = some (.cells #[.int .i64 xk, .string xs, .int .i64 vk, .bool vb, .int .i64 vn, .string vs, .slice none 0 0, .slice none 0 0, .slice kp kn kc, .slice np m nc] 28 (0, 0)) ∧ w4.heap[w.heap.size + 1]? = some (.cells #[.int .i64 dk, .bool db, .int .i64 dn, .string ds, .slice dp dm dc, .slice dq dl de] 25 (0, 0)) ∧ w4.heap[w.heap.size + 1 + 1]? = some (.cells #[.int .i64 0, .bool false, .int .i64 0, .string ⟨#[]⟩, .slice none 0 0, .slice none 0 0] 25 (0, 0)) ∧ Below w.heap.size w w4) := ⟨Below.row hb4 aR.out.1, Below.row hb4 aR.out.2.1, Below.row hb4 aR.out.2.2.1, aR.out.2.2.2.trans (hb4.mono aR.out.2.2.2.size)⟩
  obtain ⟨w5, hw5⟩ : ∃ w5, w4.alloc (.cells #[.int .i64 y.k, .bool y.b, .int .i64 y.n, .string y.s, .slice none 0 0, .slice none 0 0] 25) = w5 := ⟨_, rfl⟩
  have hb5 : Below w4.heap.size w4 w5 := by rw [← hw5]; exact (Below.refl _ w4).alloc (Nat.le_refl _) _
  have ry : w5.heap[w4.heap.size]? = some (.cells #[.int .i64 y.k, .bool y.b, .int .i64 y.n, .string y.s, .slice none 0 0, .slice none 0 0] 25 (0, 0)) := by rw [← hw5]; exact heap_alloc_new _ _
  have ey0 : w5.cell? ⟨w4.heap.size, 0, none⟩ = some (.int .i64 y.k) := cell_of_row w5 _ 0 _ _ _ ry
  have ey1 : w5.cell? ⟨w4.heap.size, 1, none⟩ = some (.bool y.b) := cell_of_row w5 _ 1 _ _ _ ry
  have ey2 : w5.cell? ⟨w4.heap.size, 2, none⟩ = some (.int .i64 y.n) := cell_of_row w5 _ 2 _ _ _ ry
  have ey3 : w5.cell? ⟨w4.heap.size, 3, none⟩ = some (.string y.s) := cell_of_row w5 _ 3 _ _ _ ry
  have ey4 : w5.cell? ⟨w4.heap.size, 4, none⟩ = some (.slice none 0 0) := cell_of_row w5 _ 4 _ _ _ ry
  have ey5 : w5.cell? ⟨w4.heap.size, 5, none⟩ = some (.slice none 0 0) := cell_of_row w5 _ 5 _ _ _ ry
  have HW5 : Hid (w4.alloc (.cells #[.int .i64 y.k, .bool y.b, .int .i64 y.n, .string y.s, .slice none 0 0, .slice none 0 0] 25) = w5) := hw5
  have cR : Hid (w5.heap[w.heap.size]? = some (.cells #[.int .i64 xk, .string xs, .int .i64 vk, .bool vb, .int .i64 vn, .string vs, .slice none 0 0, .slice none 0 0, .slice kp kn kc, .slice np m nc] 28 (0, 0)) ∧ w5.heap[w.heap.size + 1]? = some (.cells #[.int .i64 dk, .bool db, .int .i64 dn, .string ds, .slice dp dm dc, .slice dq dl de] 25 (0, 0)) ∧ w5.heap[w.heap.size + 1 + 1]? = some (.cells #[.int .i64 0, .bool false, .int .i64 0, .string ⟨#[]⟩, .slice none 0 0, .slice none 0 0] 25 (0, 0)) ∧ Below w.heap.size w w5) := ⟨Below.row hb5 bR.out.1, Below.row hb5 bR.out.2.1, Below.row hb5 bR.out.2.2.1, bR.out.2.2.2.trans (hb5.mono bR.out.2.2.2.size)⟩
  clear aR bR hb4 kr cx0 cx1 cx2 cx3 cx4 cx5 cx6 cx7 cx8 cx9 cd0 cd1 cd2 cd3 cd4 cd5 HWw3 hw5 hb5 ry
  go_wp2_with (first | rw [HW5.out] | fail)
  refine (kcl _).mono ?_
  rintro r w6 ⟨rfl, hb6⟩
  have dR : Hid (w6.heap[w.heap.size]? = some (.cells #[.int .i64 xk, .string xs, .int .i64 vk, .bool vb, .int .i64 vn, .string vs, .slice none 0 0, .slice none 0 0, .slice kp kn kc, .slice np m nc] 28 (0, 0)) ∧ w6.heap[w.heap.size + 1]? = some (.cells #[.int .i64 dk, .bool db, .int .i64 dn, .string ds, .slice dp dm dc, .slice dq dl de] 25 (0, 0)) ∧ w6.heap[w.heap.size + 1 + 1]? = some (.cells #[.int .i64 0, .bool false, .int .i64 0, .string ⟨#[]⟩, .slice none 0 0, .slice none 0 0] 25 (0, 0)) ∧ Below w.heap.size w w6) := ⟨Below.row hb6 cR.out.1, Below.row hb6 cR.out.2.1, Below.row hb6 cR.out.2.2.1, cR.out.2.2.2.trans (hb6.mono cR.out.2.2.2.size)⟩
  clear kcl cR hb6
  go_wp2_with (first | (refine wpList_put rfl 25 (.tmp 4) (.tmp 19) rfl rfl rfl rfl dR.out.2.2.1 rfl info25 (by simp [Value.oneCell']) ?_) | fail)
  exact bodyPost_ret (results_row_tmp Tryz.results9 _ _ (w.heap.size + 1 + 1) 25 _ (0, 0) _ rfl (put_row _ dR.out.2.2.1 rfl) Tryz.underlying25 rfl info25) rfl ⟨rfl, put_below dR.out.2.2.2 _ (by omega) _⟩
set_option maxRecDepth 100000 in
set_option maxHeartbeats 4000000 in
theorem eval_fails (xk : Int) (xs : ByteArray) (vk : Int) (vb : Bool) (vn : Int) (vs : ByteArray) (kp : Option Addr) (kn kc : Nat) (np : Option Addr) (m nc : Nat) (y : Lf) (e : Int) (he : (e == 0) = false) (dk : Int) (db : Bool) (dn : Int) (ds : ByteArray) (dp : Option Addr) (dm dc : Nat) (dq : Option Addr) (dl de : Nat) (w : World) (hr : ∀ W, Below w.heap.size w W → Calls Tryz.prog 21 #[.agg #[.int .i64 xk, .string xs, .int .i64 vk, .bool vb, .int .i64 vn, .string vs, .slice none 0 0, .slice none 0 0, .slice kp kn kc, .slice np m nc], .agg #[.int .i64 dk, .bool db, .int .i64 dn, .string ds, .slice dp dm dc, .slice dq dl de]] W fun r W' => r = .returned (.tuple #[.agg #[.int .i64 y.k, .bool y.b, .int .i64 y.n, .string y.s, .slice none 0 0, .slice none 0 0], .int .i64 e]) ∧ Below W.heap.size W W') :
    Calls Tryz.prog 9 #[.agg #[.int .i64 xk, .string xs, .int .i64 vk, .bool vb, .int .i64 vn, .string vs, .slice none 0 0, .slice none 0 0, .slice kp kn kc, .slice np m nc], .agg #[.int .i64 dk, .bool db, .int .i64 dn, .string ds, .slice dp dm dc, .slice dq dl de]] w fun r w' => r = .returned (.tuple #[.agg #[.int .i64 0, .bool false, .int .i64 0, .string ⟨#[]⟩, .slice none 0 0, .slice none 0 0], .int .i64 e]) ∧ Below w.heap.size w w' := by
  have kcl := V.clone_leaf y.k y.b y.n y.s
  change ∀ W, Calls Tryz.prog 22 #[.agg #[.int .i64 y.k, .bool y.b, .int .i64 y.n, .string y.s, .slice none 0 0, .slice none 0 0]] W (fun r w' => r = .returned (.agg #[.int .i64 y.k, .bool y.b, .int .i64 y.n, .string y.s, .slice none 0 0, .slice none 0 0]) ∧ Below W.heap.size W w') at kcl
  obtain ⟨w3, hw3⟩ : ∃ u, (((w.alloc (.cells #[.int .i64 xk, .string xs, .int .i64 vk, .bool vb, .int .i64 vn, .string vs, .slice none 0 0, .slice none 0 0, .slice kp kn kc, .slice np m nc] 28)).alloc (.cells #[.int .i64 dk, .bool db, .int .i64 dn, .string ds, .slice dp dm dc, .slice dq dl de] 25)).alloc (.cells #[.int .i64 0, .bool false, .int .i64 0, .string ⟨#[]⟩, .slice none 0 0, .slice none 0 0] 25)) = u := ⟨_, rfl⟩
  obtain ⟨rw30, rw31, rw32, bw3⟩ := alloc3 hw3
  have HWw3 := mkHid hw3
  have kr := hr w3 bw3
  have cx0 : w3.cell? ⟨w.heap.size, 0, none⟩ = some (.int .i64 xk) := cell_of_row w3 _ 0 _ _ _ rw30
  have cx1 : w3.cell? ⟨w.heap.size, 1, none⟩ = some (.string xs) := cell_of_row w3 _ 1 _ _ _ rw30
  have cx2 : w3.cell? ⟨w.heap.size, 2, none⟩ = some (.int .i64 vk) := cell_of_row w3 _ 2 _ _ _ rw30
  have cx3 : w3.cell? ⟨w.heap.size, 3, none⟩ = some (.bool vb) := cell_of_row w3 _ 3 _ _ _ rw30
  have cx4 : w3.cell? ⟨w.heap.size, 4, none⟩ = some (.int .i64 vn) := cell_of_row w3 _ 4 _ _ _ rw30
  have cx5 : w3.cell? ⟨w.heap.size, 5, none⟩ = some (.string vs) := cell_of_row w3 _ 5 _ _ _ rw30
  have cx6 : w3.cell? ⟨w.heap.size, 6, none⟩ = some (.slice none 0 0) := cell_of_row w3 _ 6 _ _ _ rw30
  have cx7 : w3.cell? ⟨w.heap.size, 7, none⟩ = some (.slice none 0 0) := cell_of_row w3 _ 7 _ _ _ rw30
  have cx8 : w3.cell? ⟨w.heap.size, 8, none⟩ = some (.slice kp kn kc) := cell_of_row w3 _ 8 _ _ _ rw30
  have cx9 : w3.cell? ⟨w.heap.size, 9, none⟩ = some (.slice np m nc) := cell_of_row w3 _ 9 _ _ _ rw30
  have cd0 : w3.cell? ⟨w.heap.size + 1, 0, none⟩ = some (.int .i64 dk) := cell_of_row w3 _ 0 _ _ _ rw31
  have cd1 : w3.cell? ⟨w.heap.size + 1, 1, none⟩ = some (.bool db) := cell_of_row w3 _ 1 _ _ _ rw31
  have cd2 : w3.cell? ⟨w.heap.size + 1, 2, none⟩ = some (.int .i64 dn) := cell_of_row w3 _ 2 _ _ _ rw31
  have cd3 : w3.cell? ⟨w.heap.size + 1, 3, none⟩ = some (.string ds) := cell_of_row w3 _ 3 _ _ _ rw31
  have cd4 : w3.cell? ⟨w.heap.size + 1, 4, none⟩ = some (.slice dp dm dc) := cell_of_row w3 _ 4 _ _ _ rw31
  have cd5 : w3.cell? ⟨w.heap.size + 1, 5, none⟩ = some (.slice dq dl de) := cell_of_row w3 _ 5 _ _ _ rw31
  have aR : Hid (w3.heap[w.heap.size]? = some (.cells #[.int .i64 xk, .string xs, .int .i64 vk, .bool vb, .int .i64 vn, .string vs, .slice none 0 0, .slice none 0 0, .slice kp kn kc, .slice np m nc] 28 (0, 0)) ∧ w3.heap[w.heap.size + 1]? = some (.cells #[.int .i64 dk, .bool db, .int .i64 dn, .string ds, .slice dp dm dc, .slice dq dl de] 25 (0, 0)) ∧ w3.heap[w.heap.size + 1 + 1]? = some (.cells #[.int .i64 0, .bool false, .int .i64 0, .string ⟨#[]⟩, .slice none 0 0, .slice none 0 0] 25 (0, 0)) ∧ Below w.heap.size w w3) := ⟨rw30, rw31, rw32, bw3⟩
  clear hw3 rw30 rw31 rw32 bw3 hr
  go_enter Tryz.func9, Tryz.ntmps9
  go_wp2_with (first | rw [HWw3.out] | fail)
  refine kr.mono ?_
  rintro r w4 ⟨rfl, hb4⟩
  have bR : Hid (w4.heap[w.heap.size]? = some (.cells #[.int .i64 xk, .string xs, .int .i64 vk, .bool vb, .int .i64 vn, .string vs, .slice none 0 0, .slice none 0 0, .slice kp kn kc, .slice np m nc] 28 (0, 0)) ∧ w4.heap[w.heap.size + 1]? = some (.cells #[.int .i64 dk, .bool db, .int .i64 dn, .string ds, .slice dp dm dc, .slice dq dl de] 25 (0, 0)) ∧ w4.heap[w.heap.size + 1 + 1]? = some (.cells #[.int .i64 0, .bool false, .int .i64 0, .string ⟨#[]⟩, .slice none 0 0, .slice none 0 0] 25 (0, 0)) ∧ Below w.heap.size w w4) := ⟨Below.row hb4 aR.out.1, Below.row hb4 aR.out.2.1, Below.row hb4 aR.out.2.2.1, aR.out.2.2.2.trans (hb4.mono aR.out.2.2.2.size)⟩
  obtain ⟨w5, hw5⟩ : ∃ w5, w4.alloc (.cells #[.int .i64 y.k, .bool y.b, .int .i64 y.n, .string y.s, .slice none 0 0, .slice none 0 0] 25) = w5 := ⟨_, rfl⟩
  have hb5 : Below w4.heap.size w4 w5 := by rw [← hw5]; exact (Below.refl _ w4).alloc (Nat.le_refl _) _
  have ry : w5.heap[w4.heap.size]? = some (.cells #[.int .i64 y.k, .bool y.b, .int .i64 y.n, .string y.s, .slice none 0 0, .slice none 0 0] 25 (0, 0)) := by rw [← hw5]; exact heap_alloc_new _ _
  have ey0 : w5.cell? ⟨w4.heap.size, 0, none⟩ = some (.int .i64 y.k) := cell_of_row w5 _ 0 _ _ _ ry
  have ey1 : w5.cell? ⟨w4.heap.size, 1, none⟩ = some (.bool y.b) := cell_of_row w5 _ 1 _ _ _ ry
  have ey2 : w5.cell? ⟨w4.heap.size, 2, none⟩ = some (.int .i64 y.n) := cell_of_row w5 _ 2 _ _ _ ry
  have ey3 : w5.cell? ⟨w4.heap.size, 3, none⟩ = some (.string y.s) := cell_of_row w5 _ 3 _ _ _ ry
  have ey4 : w5.cell? ⟨w4.heap.size, 4, none⟩ = some (.slice none 0 0) := cell_of_row w5 _ 4 _ _ _ ry
  have ey5 : w5.cell? ⟨w4.heap.size, 5, none⟩ = some (.slice none 0 0) := cell_of_row w5 _ 5 _ _ _ ry
  have HW5 : Hid (w4.alloc (.cells #[.int .i64 y.k, .bool y.b, .int .i64 y.n, .string y.s, .slice none 0 0, .slice none 0 0] 25) = w5) := hw5
  have cR : Hid (w5.heap[w.heap.size]? = some (.cells #[.int .i64 xk, .string xs, .int .i64 vk, .bool vb, .int .i64 vn, .string vs, .slice none 0 0, .slice none 0 0, .slice kp kn kc, .slice np m nc] 28 (0, 0)) ∧ w5.heap[w.heap.size + 1]? = some (.cells #[.int .i64 dk, .bool db, .int .i64 dn, .string ds, .slice dp dm dc, .slice dq dl de] 25 (0, 0)) ∧ w5.heap[w.heap.size + 1 + 1]? = some (.cells #[.int .i64 0, .bool false, .int .i64 0, .string ⟨#[]⟩, .slice none 0 0, .slice none 0 0] 25 (0, 0)) ∧ Below w.heap.size w w5) := ⟨Below.row hb5 bR.out.1, Below.row hb5 bR.out.2.1, Below.row hb5 bR.out.2.2.1, bR.out.2.2.2.trans (hb5.mono bR.out.2.2.2.size)⟩
  clear aR bR hb4 kr cx0 cx1 cx2 cx3 cx4 cx5 cx6 cx7 cx8 cx9 cd0 cd1 cd2 cd3 cd4 cd5 HWw3 hw5 hb5 ry
  go_wp2_with (first | rw [HW5.out] | (refine wpList_put rfl 25 (.tmp 4) (.tmp 16) rfl rfl rfl rfl cR.out.2.2.1 rfl info25 (by simp [Value.oneCell']) ?_) | fail)
  exact bodyPost_ret (results_row_tmp Tryz.results9 _ _ (w.heap.size + 1 + 1) 25 _ (0, 0) _ rfl (put_row _ cR.out.2.2.1 rfl) Tryz.underlying25 rfl info25) rfl ⟨rfl, put_below cR.out.2.2.2 _ (by omega) _⟩
end Go.Proofs.YtnnclhmhbmbkfaaGreatDoor
