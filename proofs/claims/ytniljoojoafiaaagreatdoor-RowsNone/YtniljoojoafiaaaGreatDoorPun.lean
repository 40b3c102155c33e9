/- Put into a table without documents and indexes. -/
import Derived.Test.YtniljoojoafiaaaGreatDoorXai
import Derived.Test.YtniljoojoafiaaaGreatDoorXat
import Derived.Laws.IdiomRangeMap
namespace Go.Proofs.YtniljoojoafiaaaGreatDoor
open Go.RowKit Go.Shelf
attribute [local go_sem] Oper.semAt_some
set_option maxRecDepth 100000 in
theorem part_no {w : World} (b : Nat) (x y : Value) (hr : w.heap[b]? = some (.cells #[x, y, .bool false] 75 (0, 0))) :
    Calls Tryz.prog 28 #[.pointer (some ⟨b, 0, none⟩)] w fun e w' => e = .returned (.tuple #[]) ∧ w' = w := by
  have c2 := cell_of_row w _ 2 _ _ _ hr
  go_enter Tryz.func28, Tryz.ntmps28
  go_wp2
  exact bodyPost_ret (results_none Tryz.results28 _ _ _) rfl ⟨rfl, rfl⟩
theorem eql72 (m : Option Nat) (w : World) : (binOp .eql 72 (.map m) (.map none)).run Tryz.prog w = .ok (.bool m.isNone) w := by
  cases m <;> kernel_rfl
theorem make72 (w : World) : (Instr.makeMap 72 none).run Tryz.prog w = .ok (.map (some w.heap.size)) (w.alloc (.map #[] 0)) := by kernel_rfl
set_option maxRecDepth 100000 in
set_option maxHeartbeats 8000000 in
theorem put_new {w : World} (b : Nat) (d v : Int) (t : V.Tr) (x : V.Ad) (hr : w.heap[b]? = some (.cells #[.map none, .map none, .bool false] 75 (0, 0))) (hd : 0 ≤ d ∧ d < 18446744073709551616) (hL : V.LiesS (fun k => k < w.heap.size ∧ k ≠ b) w t x) (hs : V.slimq t) :
    Calls Tryz.prog 13 #[.pointer (some ⟨b, 0, none⟩), .agg (rwA d v t x)] w fun e w' => e = .returned (.tuple #[]) ∧ ∃ m A, w'.heap[b]? = some (.cells #[.map (some m), .map none, .bool false] 75 (0, 0)) ∧ M1 31 w' m (.int .u64 d) (.agg (rwA d v t A)) ∧
      w.heap.size ≤ m ∧ V.LiesS (fun k => w.heap.size ≤ k ∧ k ≠ m) w' t A ∧ B.Onl b w w' := by
  have l0 := lt_of_row hr
  obtain ⟨w1, hw1⟩ : ∃ w1, w.alloc (.cells #[.int .u64 d, .int .u64 v, .int .i64 t.k, .bool t.b, .int .i64 t.n, .string t.s, .slice x.pa t.m x.pc, .slice x.na t.q x.nc] 45) = w1 := ⟨_, rfl⟩
  have hb1 : Below w.heap.size w w1 := by rw [← hw1]; exact (Below.refl _ w).alloc (Nat.le_refl _) _
  have s1 : w1.heap.size = w.heap.size + 1 := by rw [← hw1]; simp
  have r1 : w1.heap[w.heap.size]? = some (.cells (rwA d v t x) 45 (0, 0)) := by rw [← hw1]; exact heap_alloc_new _ _
  have q1 := (hb1.block _ l0).trans hr
  have kd := drop_none b (.map none) (.bool false) d hd q1
  have hc : w1.cell? ⟨w.heap.size, 0, none⟩ = some (.int .u64 d) := cell_of_row w1 _ 0 _ _ _ r1
  have HW : Hid (w.alloc (.cells #[.int .u64 d, .int .u64 v, .int .i64 t.k, .bool t.b, .int .i64 t.n, .string t.s, .slice x.pa t.m x.pc, .slice x.na t.q x.nc] 45) = w1 ∧ Below w.heap.size w w1 ∧ w1.heap.size = w.heap.size + 1 ∧ w1.heap[w.heap.size]? = some (.cells (rwA d v t x) 45 (0, 0)) ∧ w1.heap[b]? = some (.cells #[.map none, .map none, .bool false] 75 (0, 0))) := ⟨hw1, hb1, s1, r1, q1⟩
  show Calls Tryz.prog 13 #[.pointer (some ⟨b, 0, none⟩), .agg #[.int .u64 d, .int .u64 v, .int .i64 t.k, .bool t.b, .int .i64 t.n, .string t.s, .slice x.pa t.m x.pc, .slice x.na t.q x.nc]] w _
  obtain ⟨Po, hPo⟩ : ∃ Po : Ending → World → Prop, Po = fun e w' => e = .returned (.tuple #[]) ∧ ∃ m A, w'.heap[b]? = some (.cells #[.map (some m), .map none, .bool false] 75 (0, 0)) ∧ M1 31 w' m (.int .u64 d) (.agg (rwA d v t A)) ∧
      w.heap.size ≤ m ∧ V.LiesS (fun k => w.heap.size ≤ k ∧ k ≠ m) w' t A ∧ B.Onl b w w' := ⟨_, rfl⟩
  rw [← hPo]
  have HP : Hid (Po = fun e w' => e = .returned (.tuple #[]) ∧ ∃ m A, w'.heap[b]? = some (.cells #[.map (some m), .map none, .bool false] 75 (0, 0)) ∧ M1 31 w' m (.int .u64 d) (.agg (rwA d v t A)) ∧
      w.heap.size ≤ m ∧ V.LiesS (fun k => w.heap.size ≤ k ∧ k ≠ m) w' t A ∧ B.Onl b w w') := hPo
  clear hPo hw1 hb1 s1 r1 q1
  go_enter Tryz.func13, Tryz.ntmps13
  go_wp2_with (first | rw [HW.out.1] | fail)
  refine kd.mono ?_
  rintro e w2 ⟨rfl, hb2⟩
  have q2 := (hb2.block _ (lt_of_row HW.out.2.2.2.2)).trans HW.out.2.2.2.2
  have r2 := (hb2.block _ (lt_of_row HW.out.2.2.2.1)).trans HW.out.2.2.2.1
  have s2 := hb2.size
  rw [HW.out.2.2.1] at s2
  have kp := part_no b _ _ q2
  have hmk := make72 w2
  have heq := eql72 none w2
  have c0 := cell_of_row w2 _ 0 _ _ _ q2
  have hB2 : Below w.heap.size w w2 := HW.out.2.1.trans (hb2.mono HW.out.2.1.size)
  obtain ⟨w3, hw3⟩ : ∃ w3, w2.alloc (.map #[] 0) = w3 := ⟨_, rfl⟩
  rw [hw3] at hmk
  have hb3 : Below w2.heap.size w2 w3 := by rw [← hw3]; exact (Below.refl _ w2).alloc (Nat.le_refl _) _
  have s3 : w3.heap.size = w2.heap.size + 1 := by rw [← hw3]; simp
  have o3 : w3.ownsMap Tryz.prog 31 heldR w2.heap.size 0 (.map []) := by rw [← hw3]; exact World.ownsMap_made w2 _ _ _
  have q3 := (hb3.block _ (lt_of_row q2)).trans q2
  have r3 := (hb3.block _ (lt_of_row r2)).trans r2
  obtain ⟨w4, hw4⟩ : ∃ w4, w3.setCell ⟨b, 0, none⟩ (.map (some w2.heap.size)) = w4 := ⟨_, rfl⟩
  have q4 : w4.heap[b]? = some (.cells #[.map (some w2.heap.size), .map none, .bool false] 75 (0, 0)) := by
    rw [← hw4]
    exact heap_setCell_same _ b 0 _ 75 _ q3
  have n4 : ∀ k, k ≠ b → w4.heap[k]? = w3.heap[k]? := fun k hk => by rw [← hw4]; exact heap_setCell_other _ _ _ _ hk
  have s4 : w4.heap.size = w3.heap.size := by rw [← hw4]; simp [World.setCell]
  have f3 := frozen_of_row w3 _ 0 _ _ q3
  have HQ : Hid (w3.setCell ⟨b, 0, none⟩ (.map (some w2.heap.size)) = w4) := hw4
  have c3 := cell_of_row w3 _ 0 _ _ _ q3
  clear kd hb2 hc
  go_wp2_with (first | (go_at_call 28; refine kp.mono ?_; rintro e w2b ⟨rfl, hq⟩; rw [hq]; clear hq) | rw [HQ.out] | fail)
  have hl4 : V.Lies w.heap.size w4 t x := V.LiesS.up (fun k h => h.1) (V.LiesS.kept (fun k (hk : k < w.heap.size ∧ k ≠ b) => (n4 k hk.2).trans ((hb3.block k (by omega)).trans (hB2.block k hk.1))) hL)
  have r4 : w4.heap[w.heap.size]? = some (.cells (rwA d v t x) 45 (0, 0)) := (n4 _ (by omega)).trans r3
  have o4 : w4.ownsMap Tryz.prog 31 heldR w2.heap.size 0 (.map []) := by
    obtain ⟨es, clock, h1, F, h2, hD⟩ := o3
    exact ⟨es, clock, (n4 _ (by omega)).trans h1, F, h2, hD⟩
  have hown : ∀ W, Below w4.heap.size w4 W → Calls Tryz.prog 33 #[.agg (rwA d v t x)] W fun e w' => (∃ u, e = .returned u ∧ LyO (fun k => w4.heap.size ≤ k) d v t u w') ∧ Below W.heap.size W w' := fun W hb => by
    have hsz := hb.size
    refine (own_any d v t x (V.LiesS.up (fun k (hk : k < w.heap.size) => (by omega : k < W.heap.size)) (hl4.later (hb.mono (by omega)))) hs).mono ?_
    rintro e w' ⟨A, rfl, hA, hb'⟩
    exact ⟨⟨_, rfl, A, rfl, hA.up (fun k (hk : W.heap.size < k) => by omega)⟩, hb'⟩
  have HA : Hid (B.Onl b w3 w4) := by
    rw [← hw4]
    exact (B.Onl.of (Below.refl _ _)).setCell 0 _
  have HK : Hid ((∀ k, k ≠ b → w4.heap[k]? = w3.heap[k]?) ∧ Below w2.heap.size w2 w3 ∧ Below w.heap.size w w2 ∧ w4.heap.size = w3.heap.size ∧ w3.heap.size = w2.heap.size + 1 ∧ w4.ownsMap Tryz.prog 31 heldR w2.heap.size 0 (.map [])) := ⟨n4, hb3, hB2, s4, s3, o4⟩
  clear hmk heq hw3 hw4 n4 hb3 hB2 o3 o4 hl4 hL hs q2 r2 q3 r3 kp c0 c3 f3
  refine B.any_tail (by kernel_rfl) 8 (by exact Nat.le_of_ble_eq_true rfl) (fun i => i + 23) (B.mixR [(7, LyO (fun k => w4.heap.size ≤ k) d v t)] [.pointer (some ⟨b, 0, none⟩), .pointer (some ⟨b, 0, none⟩), .pointer (some ⟨b, 0, none⟩), .map (some w2.heap.size), .pointer (some ⟨w.heap.size, 0, none⟩), .int .u64 d, .agg (rwA d v t x)]) (by kernel_rfl) (by kernel_rfl) (by kernel_rfl) (by kernel_rfl) (B.mixR_later _ _ (by intro y hy; simp only [List.mem_cons, List.not_mem_nil, or_false] at hy; subst hy; exact LyO.later)) ?step ?post
  case step =>
    intro iq hiq a W hrest hb hk
    have hp3 : a.eval (.tmp 3) = .pointer (some ⟨w.heap.size, 0, none⟩) := (hrest 3 (by intro iq2 hiq2; omega)).trans rfl
    have hp0 : a.eval (.tmp 0) = .pointer (some ⟨b, 0, none⟩) := (hrest 0 (by intro iq2 hiq2; omega)).trans rfl
    have fp3 := B.ev hp3
    have fp0 := B.ev hp0
    have hx := (hb.block _ (lt_of_row r4)).trans r4
    have hx0 := (hb.block _ (lt_of_row q4)).trans q4
    clear hrest
    obtain rfl | rfl | rfl | rfl | rfl | rfl | rfl | rfl : iq = 0 ∨ iq = 1 ∨ iq = 2 ∨ iq = 3 ∨ iq = 4 ∨ iq = 5 ∨ iq = 6 ∨ iq = 7 := by omega
    · clear hiq hk
      refine ⟨_, rfl, rfl, rfl, B.wp_value (v := .pointer (some ⟨b, 0, none⟩)) (w' := W) ?_ ⟨_, rfl, Below.refl _ _, rfl⟩⟩
      go_simp
    · have e0 : a.eval (.tmp 23) = .pointer (some ⟨b, 0, none⟩) := hk 0 (B.mem_of (by kernel_rfl))
      have f0 := B.ev e0
      clear hiq hk
      refine ⟨_, rfl, rfl, rfl, B.wp_value (v := .pointer (some ⟨b, 0, none⟩)) (w' := W) ?_ ⟨_, rfl, Below.refl _ _, rfl⟩⟩
      go_simp
    · have e0 : a.eval (.tmp 24) = .pointer (some ⟨b, 0, none⟩) := hk 1 (B.mem_of (by kernel_rfl))
      have f0 := B.ev e0
      clear hiq hk
      refine ⟨_, rfl, rfl, rfl, B.wp_value (v := .pointer (some ⟨b, 0, none⟩)) (w' := W) ?_ ⟨_, rfl, Below.refl _ _, rfl⟩⟩
      go_simp
    · have e0 : a.eval (.tmp 25) = .pointer (some ⟨b, 0, none⟩) := hk 2 (B.mem_of (by kernel_rfl))
      have f0 := B.ev e0
      have hc := cell_of_row W _ 0 _ _ _ hx0
      clear hiq hk
      refine ⟨_, rfl, rfl, rfl, B.wp_value (v := .map (some w2.heap.size)) (w' := W) ?_ ⟨_, rfl, Below.refl _ _, rfl⟩⟩
      go_simp
    · clear hiq hk
      refine ⟨_, rfl, rfl, rfl, B.wp_value (v := .pointer (some ⟨w.heap.size, 0, none⟩)) (w' := W) ?_ ⟨_, rfl, Below.refl _ _, rfl⟩⟩
      go_simp
    · have e0 : a.eval (.tmp 27) = .pointer (some ⟨w.heap.size, 0, none⟩) := hk 4 (B.mem_of (by kernel_rfl))
      have f0 := B.ev e0
      have hc : W.cell? ⟨w.heap.size, 0, none⟩ = some (.int .u64 d) := cell_of_row W _ 0 _ _ _ hx
      clear hiq hk
      refine ⟨_, rfl, rfl, rfl, B.wp_value (v := .int .u64 d) (w' := W) ?_ ⟨_, rfl, Below.refl _ _, rfl⟩⟩
      go_simp
    · clear hiq hk
      refine ⟨_, rfl, rfl, rfl, wp_load_mid 45 (.tmp 3) rfl w.heap.size 0 hp3 (rwA d v t x).toList _ (fun j u hu => by rw [Nat.zero_add, cell_of_row W _ j _ _ _ hx]; simpa using hu) Tryz.underlying45 rfl info45 ?_⟩
      exact ⟨_, rfl, Below.refl _ _, rfl⟩
    · have e0 : a.eval (.tmp 29) = .agg (rwA d v t x) := hk 6 (B.mem_of (by kernel_rfl))
      have f0 := B.ev e0
      clear hiq hk
      refine ⟨_, rfl, rfl, rfl, B.wp_enter (f := 33) (args := #[.agg (rwA d v t x)]) ?_ ((hown W hb).mono ?_)⟩
      · go_simp
      · rintro e w' ⟨⟨u, rfl, hu⟩, hb2⟩
        exact ⟨_, rfl, _, rfl, hb2, hu⟩
  case post =>
    intro VV W hbW hV
    have e3 : VV 3 = .map (some w2.heap.size) := hV 3 (by omega)
    have e5 : VV 5 = .int .u64 d := hV 5 (by omega)
    obtain ⟨A, e7, hA⟩ : LyO (fun k => w4.heap.size ≤ k) d v t (VV 7) W := hV 7 (by omega)
    have oW : W.ownsMap Tryz.prog 31 heldR w2.heap.size 0 (.map []) := World.ownsMap.kept HK.out.2.2.2.2.2 (row := none) ⟨hbW.os, hbW.tape, hbW.output, hbW.size, fun k hk _ => hbW.block k hk⟩ (by simp)
    obtain ⟨w5, hup, m5, hg5⟩ := M1.make (t := 72) oW keyed31 Tryz.underlying72 (key31 hd) (.agg (rwA d v t A))
    have szW := hbW.size
    have hmb : w2.heap.size ≠ b := by omega
    have q5 : w5.heap[b]? = some (.cells #[.map (some w2.heap.size), .map none, .bool false] 75 (0, 0)) := ((hg5.block b (by omega) (fun e => by injection e with e; omega)).trans (hbW.block b (by omega))).trans q4
    have c1 := cell_of_row w5 _ 1 _ _ _ q5
    have hrn := run_range_nilMap (P := Tryz.prog) w5 73 9 76 Tryz.underlying73
    have hnx := fun ty => run_next_nilMap (P := Tryz.prog) w5 ty 0 0 #[]
    obtain ⟨w6, hw6⟩ : ∃ w6, w5.alloc (.mapIter none 0 #[] 0) = w6 := ⟨_, rfl⟩
    rw [hw6] at hrn
    simp only [hw6] at hnx
    have hb6 : Below w5.heap.size w5 w6 := by rw [← hw6]; exact (Below.refl _ w5).alloc (Nat.le_refl _) _
    have hf : Po (.returned (.tuple #[])) w6 := by
      rw [HP.out]
      have g5s := hg5.size
      refine ⟨rfl, w2.heap.size, A, (hb6.block _ (by omega)).trans q5, m5.later hb6, by omega, ?_, ?_⟩
      · have h1 := lies_keep hA (w' := w5) (fun k (hk : w4.heap.size ≤ k) hlt => hg5.block k hlt (fun e => by injection e with e; have := HK.out.2.2.2; omega))
        exact V.LiesS.up (fun k (hk : w4.heap.size ≤ k) => ⟨by have := HK.out.2.2.2; omega, by have := HK.out.2.2.2; omega⟩) (lies_later h1 hb6)
      · have a1 : B.Onl b w w4 := ((B.Onl.of (b := b) HK.out.2.2.1).trans (B.Onl.of HK.out.2.1)).trans HA.out
        have a2 : B.Onl b w W := a1.trans (B.Onl.of hbW)
        have e2 := HK.out.2.2.1.size
        have a3 : B.Onl b w w5 := ⟨hg5.os.trans a2.os, hg5.tape.trans a2.tape, hg5.output.trans a2.output, Nat.le_trans a2.size hg5.size, fun k hk hkb => (hg5.block k (Nat.lt_of_lt_of_le hk a2.size) (fun e => by injection e with e; omega)).trans (a2.block k hk hkb)⟩
        exact a3.trans (B.Onl.of hb6)
    have HF : Hid (Po (.returned (.tuple #[])) w6) := hf
    clear hf hV hown hg5 m5 hA oW hw6 hb6 hbW
    simp only [B.putAll, Nat.reduceAdd]
    rw [e3, e5, e7]
    simp only [Act.put, List.setIfInBounds_toArray, List.set_cons_zero, List.set_cons_succ]
    go_wp2
    go_loopw [36] (fun _ wr => wr = w6) (fun _ _ => 0)
    case atStart => rfl
    case round =>
      obtain rfl := hrel
      go_wp2
      exact bodyPost_end (results_none Tryz.results13 _ _ _) rfl HF.out
end Go.Proofs.YtniljoojoafiaaaGreatDoor
