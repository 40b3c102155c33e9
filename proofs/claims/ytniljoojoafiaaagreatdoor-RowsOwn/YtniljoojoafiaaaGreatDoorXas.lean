/- Put into a table without documents and indexes. The numbers of a table with one document, sorted; the function over that one (these, All). -/
import Derived.Test.YtniljoojoafiaaaGreatDoorXai
import Derived.Test.YtniljoojoafiaaaGreatDoorXar
import Derived.Laws.IdiomRangeMap
import Derived.Test.YtniljoojoafiaaaGreatDoorXak
namespace Go.Proofs.YtniljoojoafiaaaGreatDoor
open Go.RowKit Go.Shelf
attribute [local go_sem] Oper.semAt_some
set_option maxRecDepth 100000 in
theorem part_no {w : World} (b : Nat) (x y : Value) (hr : w.heap[b]? = some (.cells #[x, y, .bool false] 75 (0, 0))) :
    Calls Tryz.prog 28 #[.pointer (some ⟨b, 0, none⟩)] w fun e w' => e = .returned (.tuple #[]) ∧ w' = w := by
  have c2 := cell_of_row w _ 2 _ _ _ hr
  go_enter Tryz.func28, Tryz.ntmps28
  go_wp2
  exact bodyPost_ret (results_none Tryz.results28 _ _ _) rfl ⟨rfl, rfl⟩
theorem eql72 (m : Option Nat) (w : World) : (binOp .eql 72 (.map m) (.map none)).run Tryz.prog w = .ok (.bool m.isNone) w := by
  cases m <;> kernel_rfl
theorem make72 (w : World) : (Instr.makeMap 72 none).run Tryz.prog w = .ok (.map (some w.heap.size)) (w.alloc (.map #[] 0)) := by kernel_rfl
set_option maxRecDepth 100000 in
set_option maxHeartbeats 8000000 in
theorem put_new {w : World} (b : Nat) (d v : Int) (t : V.Tr) (x : V.Ad) (hr : w.heap[b]? = some (.cells #[.map none, .map none, .bool false] 75 (0, 0))) (hd : 0 ≤ d ∧ d < 18446744073709551616) (hL : V.LiesS (fun k => k < w.heap.size ∧ k ≠ b) w t x) (hs : V.slimq t) :
    Calls Tryz.prog 13 #[.pointer (some ⟨b, 0, none⟩), .agg (rwA d v t x)] w fun e w' => e = .returned (.tuple #[]) ∧ ∃ m A, w'.heap[b]? = some (.cells #[.map (some m), .map none, .bool false] 75 (0, 0)) ∧ M1 31 w' m (.int .u64 d) (.agg (rwA d v t A)) ∧
      w.heap.size ≤ m ∧ V.LiesS (fun k => w.heap.size ≤ k ∧ k ≠ m) w' t A ∧ B.Onl b w w' := by
  have l0 := lt_of_row hr
  obtain ⟨w1, hw1⟩ : ∃ w1, w.alloc (.cells #[.int .u64 d, .int .u64 v, .int .i64 t.k, .bool t.b, .int .i64 t.n, .string t.s, .slice x.pa t.m x.pc, .slice x.na t.q x.nc] 45) = w1 := ⟨_, rfl⟩
  have hb1 : Below w.heap.size w w1 := by rw [← hw1]; exact (Below.refl _ w).alloc (Nat.le_refl _) _
  have s1 : w1.heap.size = w.heap.size + 1 := by rw [← hw1]; simp
  have r1 : w1.heap[w.heap.size]? = some (.cells (rwA d v t x) 45 (0, 0)) := by rw [← hw1]; exact heap_alloc_new _ _
  have q1 := (hb1.block _ l0).trans hr
  have kd := drop_none b (.map none) (.bool false) d hd q1
  have hc : w1.cell? ⟨w.heap.size, 0, none⟩ = some (.int .u64 d) := cell_of_row w1 _ 0 _ _ _ r1
  have HW : Hid (w.alloc (.cells #[.int .u64 d, .int .u64 v, .int .i64 t.k, .bool t.b, .int .i64 t.n, .string t.s, .slice x.pa t.m x.pc, .slice x.na t.q x.nc] 45) = w1 ∧ Below w.heap.size w w1 ∧ w1.heap.size = w.heap.size + 1 ∧ w1.heap[w.heap.size]? = some (.cells (rwA d v t x) 45 (0, 0)) ∧ w1.heap[b]? = some (.cells #[.map none, .map none, .bool false] 75 (0, 0))) := ⟨hw1, hb1, s1, r1, q1⟩
  show Calls Tryz.prog 13 #[.pointer (some ⟨b, 0, none⟩), .agg #[.int .u64 d, .int .u64 v, .int .i64 t.k, .bool t.b, .int .i64 t.n, .string t.s, .slice x.pa t.m x.pc, .slice x.na t.q x.nc]] w _
  obtain ⟨Po, hPo⟩ : ∃ Po : Ending → World → Prop, Po = fun e w' => e = .returned (.tuple #[]) ∧ ∃ m A, w'.heap[b]? = some (.cells #[.map (some m), .map none, .bool false] 75 (0, 0)) ∧ M1 31 w' m (.int .u64 d) (.agg (rwA d v t A)) ∧
      w.heap.size ≤ m ∧ V.LiesS (fun k => w.heap.size ≤ k ∧ k ≠ m) w' t A ∧ B.Onl b w w' := ⟨_, rfl⟩
  rw [← hPo]
  have HP : Hid (Po = fun e w' => e = .returned (.tuple #[]) ∧ ∃ m A, w'.heap[b]? = some (.cells #[.map (some m), .map none, .bool false] 75 (0, 0)) ∧ M1 31 w' m (.int .u64 d) (.agg (rwA d v t A)) ∧
      w.heap.size ≤ m ∧ V.LiesS (fun k => w.heap.size ≤ k ∧ k ≠ m) w' t A ∧ B.Onl b w w') := hPo
  clear hPo hw1 hb1 s1 r1 q1
  go_enter Tryz.func13, Tryz.ntmps13
  go_wp2_with (first | rw [HW.out.1] | fail)
  refine kd.mono ?_
  rintro e w2 ⟨rfl, hb2⟩
  have q2 := (hb2.block _ (lt_of_row HW.out.2.2.2.2)).trans HW.out.2.2.2.2
  have r2 := (hb2.block _ (lt_of_row HW.out.2.2.2.1)).trans HW.out.2.2.2.1
  have s2 := hb2.size
  rw [HW.out.2.2.1] at s2
  have kp := part_no b _ _ q2
  have hmk := make72 w2
  have heq := eql72 none w2
  have c0 := cell_of_row w2 _ 0 _ _ _ q2
  have hB2 : Below w.heap.size w w2 := HW.out.2.1.trans (hb2.mono HW.out.2.1.size)
  obtain ⟨w3, hw3⟩ : ∃ w3, w2.alloc (.map #[] 0) = w3 := ⟨_, rfl⟩
  rw [hw3] at hmk
  have hb3 : Below w2.heap.size w2 w3 := by rw [← hw3]; exact (Below.refl _ w2).alloc (Nat.le_refl _) _
  have s3 : w3.heap.size = w2.heap.size + 1 := by rw [← hw3]; simp
  have o3 : w3.ownsMap Tryz.prog 31 heldR w2.heap.size 0 (.map []) := by rw [← hw3]; exact World.ownsMap_made w2 _ _ _
  have q3 := (hb3.block _ (lt_of_row q2)).trans q2
  have r3 := (hb3.block _ (lt_of_row r2)).trans r2
  obtain ⟨w4, hw4⟩ : ∃ w4, w3.setCell ⟨b, 0, none⟩ (.map (some w2.heap.size)) = w4 := ⟨_, rfl⟩
  have q4 : w4.heap[b]? = some (.cells #[.map (some w2.heap.size), .map none, .bool false] 75 (0, 0)) := by
    rw [← hw4]
    exact heap_setCell_same _ b 0 _ 75 _ q3
  have n4 : ∀ k, k ≠ b → w4.heap[k]? = w3.heap[k]? := fun k hk => by rw [← hw4]; exact heap_setCell_other _ _ _ _ hk
  have s4 : w4.heap.size = w3.heap.size := by rw [← hw4]; simp [World.setCell]
  have f3 := frozen_of_row w3 _ 0 _ _ q3
  have HQ : Hid (w3.setCell ⟨b, 0, none⟩ (.map (some w2.heap.size)) = w4) := hw4
  have c3 := cell_of_row w3 _ 0 _ _ _ q3
  clear kd hb2 hc
  go_wp2_with (first | (go_at_call 28; refine kp.mono ?_; rintro e w2b ⟨rfl, hq⟩; rw [hq]; clear hq) | rw [HQ.out] | fail)
  have hl4 : V.Lies w.heap.size w4 t x := V.LiesS.up (fun k h => h.1) (V.LiesS.kept (fun k (hk : k < w.heap.size ∧ k ≠ b) => (n4 k hk.2).trans ((hb3.block k (by omega)).trans (hB2.block k hk.1))) hL)
  have r4 : w4.heap[w.heap.size]? = some (.cells (rwA d v t x) 45 (0, 0)) := (n4 _ (by omega)).trans r3
  have o4 : w4.ownsMap Tryz.prog 31 heldR w2.heap.size 0 (.map []) := by
    obtain ⟨es, clock, h1, F, h2, hD⟩ := o3
    exact ⟨es, clock, (n4 _ (by omega)).trans h1, F, h2, hD⟩
  have hown : ∀ W, Below w4.heap.size w4 W → Calls Tryz.prog 33 #[.agg (rwA d v t x)] W fun e w' => (∃ u, e = .returned u ∧ LyO (fun k => w4.heap.size ≤ k) d v t u w') ∧ Below W.heap.size W w' := fun W hb => by
    have hsz := hb.size
    refine (own_any d v t x (V.LiesS.up (fun k (hk : k < w.heap.size) => (by omega : k < W.heap.size)) (hl4.later (hb.mono (by omega)))) hs).mono ?_
    rintro e w' ⟨A, rfl, hA, hb'⟩
    exact ⟨⟨_, rfl, A, rfl, hA.up (fun k (hk : W.heap.size < k) => by omega)⟩, hb'⟩
  have HA : Hid (B.Onl b w3 w4) := by
    rw [← hw4]
    exact (B.Onl.of (Below.refl _ _)).setCell 0 _
  have HK : Hid ((∀ k, k ≠ b → w4.heap[k]? = w3.heap[k]?) ∧ Below w2.heap.size w2 w3 ∧ Below w.heap.size w w2 ∧ w4.heap.size = w3.heap.size ∧ w3.heap.size = w2.heap.size + 1 ∧ w4.ownsMap Tryz.prog 31 heldR w2.heap.size 0 (.map [])) := ⟨n4, hb3, hB2, s4, s3, o4⟩
  clear hmk heq hw3 hw4 n4 hb3 hB2 o3 o4 hl4 hL hs q2 r2 q3 r3 kp c0 c3 f3
  refine B.any_tail (by kernel_rfl) 8 (by exact Nat.le_of_ble_eq_true rfl) (fun i => i + 23) (B.mixR [(7, LyO (fun k => w4.heap.size ≤ k) d v t)] [.pointer (some ⟨b, 0, none⟩), .pointer (some ⟨b, 0, none⟩), .pointer (some ⟨b, 0, none⟩), .map (some w2.heap.size), .pointer (some ⟨w.heap.size, 0, none⟩), .int .u64 d, .agg (rwA d v t x)]) (by kernel_rfl) (by kernel_rfl) (by kernel_rfl) (by kernel_rfl) (B.mixR_later _ _ (by intro y hy; simp only [List.mem_cons, List.not_mem_nil, or_false] at hy; subst hy; exact LyO.later)) ?step ?post
  case step =>
    intro iq hiq a W hrest hb hk
    have hp3 : a.eval (.tmp 3) = .pointer (some ⟨w.heap.size, 0, none⟩) := (hrest 3 (by intro iq2 hiq2; omega)).trans rfl
    have hp0 : a.eval (.tmp 0) = .pointer (some ⟨b, 0, none⟩) := (hrest 0 (by intro iq2 hiq2; omega)).trans rfl
    have fp3 := B.ev hp3
    have fp0 := B.ev hp0
    have hx := (hb.block _ (lt_of_row r4)).trans r4
    have hx0 := (hb.block _ (lt_of_row q4)).trans q4
    clear hrest
    obtain rfl | rfl | rfl | rfl | rfl | rfl | rfl | rfl : iq = 0 ∨ iq = 1 ∨ iq = 2 ∨ iq = 3 ∨ iq = 4 ∨ iq = 5 ∨ iq = 6 ∨ iq = 7 := by omega
    · clear hiq hk
      refine ⟨_, rfl, rfl, rfl, B.wp_value (v := .pointer (some ⟨b, 0, none⟩)) (w' := W) ?_ ⟨_, rfl, Below.refl _ _, rfl⟩⟩
      go_simp
    · have e0 : a.eval (.tmp 23) = .pointer (some ⟨b, 0, none⟩) := hk 0 (B.mem_of (by kernel_rfl))
      have f0 := B.ev e0
      clear hiq hk
      refine ⟨_, rfl, rfl, rfl, B.wp_value (v := .pointer (some ⟨b, 0, none⟩)) (w' := W) ?_ ⟨_, rfl, Below.refl _ _, rfl⟩⟩
      go_simp
    · have e0 : a.eval (.tmp 24) = .pointer (some ⟨b, 0, none⟩) := hk 1 (B.mem_of (by kernel_rfl))
      have f0 := B.ev e0
      clear hiq hk
      refine ⟨_, rfl, rfl, rfl, B.wp_value (v := .pointer (some ⟨b, 0, none⟩)) (w' := W) ?_ ⟨_, rfl, Below.refl _ _, rfl⟩⟩
      go_simp
    · have e0 : a.eval (.tmp 25) = .pointer (some ⟨b, 0, none⟩) := hk 2 (B.mem_of (by kernel_rfl))
      have f0 := B.ev e0
      have hc := cell_of_row W _ 0 _ _ _ hx0
      clear hiq hk
      refine ⟨_, rfl, rfl, rfl, B.wp_value (v := .map (some w2.heap.size)) (w' := W) ?_ ⟨_, rfl, Below.refl _ _, rfl⟩⟩
      go_simp
    · clear hiq hk
      refine ⟨_, rfl, rfl, rfl, B.wp_value (v := .pointer (some ⟨w.heap.size, 0, none⟩)) (w' := W) ?_ ⟨_, rfl, Below.refl _ _, rfl⟩⟩
      go_simp
    · have e0 : a.eval (.tmp 27) = .pointer (some ⟨w.heap.size, 0, none⟩) := hk 4 (B.mem_of (by kernel_rfl))
      have f0 := B.ev e0
      have hc : W.cell? ⟨w.heap.size, 0, none⟩ = some (.int .u64 d) := cell_of_row W _ 0 _ _ _ hx
      clear hiq hk
      refine ⟨_, rfl, rfl, rfl, B.wp_value (v := .int .u64 d) (w' := W) ?_ ⟨_, rfl, Below.refl _ _, rfl⟩⟩
      go_simp
    · clear hiq hk
      refine ⟨_, rfl, rfl, rfl, wp_load_mid 45 (.tmp 3) rfl w.heap.size 0 hp3 (rwA d v t x).toList _ (fun j u hu => by rw [Nat.zero_add, cell_of_row W _ j _ _ _ hx]; simpa using hu) Tryz.underlying45 rfl info45 ?_⟩
      exact ⟨_, rfl, Below.refl _ _, rfl⟩
    · have e0 : a.eval (.tmp 29) = .agg (rwA d v t x) := hk 6 (B.mem_of (by kernel_rfl))
      have f0 := B.ev e0
      clear hiq hk
      refine ⟨_, rfl, rfl, rfl, B.wp_enter (f := 33) (args := #[.agg (rwA d v t x)]) ?_ ((hown W hb).mono ?_)⟩
      · go_simp
      · rintro e w' ⟨⟨u, rfl, hu⟩, hb2⟩
        exact ⟨_, rfl, _, rfl, hb2, hu⟩
  case post =>
    intro VV W hbW hV
    have e3 : VV 3 = .map (some w2.heap.size) := hV 3 (by omega)
    have e5 : VV 5 = .int .u64 d := hV 5 (by omega)
    obtain ⟨A, e7, hA⟩ : LyO (fun k => w4.heap.size ≤ k) d v t (VV 7) W := hV 7 (by omega)
    have oW : W.ownsMap Tryz.prog 31 heldR w2.heap.size 0 (.map []) := World.ownsMap.kept HK.out.2.2.2.2.2 (row := none) ⟨hbW.os, hbW.tape, hbW.output, hbW.size, fun k hk _ => hbW.block k hk⟩ (by simp)
    obtain ⟨w5, hup, m5, hg5⟩ := M1.make (t := 72) oW keyed31 Tryz.underlying72 (key31 hd) (.agg (rwA d v t A))
    have szW := hbW.size
    have hmb : w2.heap.size ≠ b := by omega
    have q5 : w5.heap[b]? = some (.cells #[.map (some w2.heap.size), .map none, .bool false] 75 (0, 0)) := ((hg5.block b (by omega) (fun e => by injection e with e; omega)).trans (hbW.block b (by omega))).trans q4
    have c1 := cell_of_row w5 _ 1 _ _ _ q5
    have hrn := run_range_nilMap (P := Tryz.prog) w5 73 9 76 Tryz.underlying73
    have hnx := fun ty => run_next_nilMap (P := Tryz.prog) w5 ty 0 0 #[]
    obtain ⟨w6, hw6⟩ : ∃ w6, w5.alloc (.mapIter none 0 #[] 0) = w6 := ⟨_, rfl⟩
    rw [hw6] at hrn
    simp only [hw6] at hnx
    have hb6 : Below w5.heap.size w5 w6 := by rw [← hw6]; exact (Below.refl _ w5).alloc (Nat.le_refl _) _
    have hf : Po (.returned (.tuple #[])) w6 := by
      rw [HP.out]
      have g5s := hg5.size
      refine ⟨rfl, w2.heap.size, A, (hb6.block _ (by omega)).trans q5, m5.later hb6, by omega, ?_, ?_⟩
      · have h1 := lies_keep hA (w' := w5) (fun k (hk : w4.heap.size ≤ k) hlt => hg5.block k hlt (fun e => by injection e with e; have := HK.out.2.2.2; omega))
        exact V.LiesS.up (fun k (hk : w4.heap.size ≤ k) => ⟨by have := HK.out.2.2.2; omega, by have := HK.out.2.2.2; omega⟩) (lies_later h1 hb6)
      · have a1 : B.Onl b w w4 := ((B.Onl.of (b := b) HK.out.2.2.1).trans (B.Onl.of HK.out.2.1)).trans HA.out
        have a2 : B.Onl b w W := a1.trans (B.Onl.of hbW)
        have e2 := HK.out.2.2.1.size
        have a3 : B.Onl b w w5 := ⟨hg5.os.trans a2.os, hg5.tape.trans a2.tape, hg5.output.trans a2.output, Nat.le_trans a2.size hg5.size, fun k hk hkb => (hg5.block k (Nat.lt_of_lt_of_le hk a2.size) (fun e => by injection e with e; omega)).trans (a2.block k hk hkb)⟩
        exact a3.trans (B.Onl.of hb6)
    have HF : Hid (Po (.returned (.tuple #[])) w6) := hf
    clear hf hV hown hg5 m5 hA oW hw6 hb6 hbW
    simp only [B.putAll, Nat.reduceAdd]
    rw [e3, e5, e7]
    simp only [Act.put, List.setIfInBounds_toArray, List.set_cons_zero, List.set_cons_succ]
    go_wp2
    go_loopw [36] (fun _ wr => wr = w6) (fun _ _ => 0)
    case atStart => rfl
    case round =>
      obtain rfl := hrel
      go_wp2
      exact bodyPost_end (results_none Tryz.results13 _ _ _) rfl HF.out
end Go.Proofs.YtniljoojoafiaaaGreatDoor
namespace Go.Proofs.YtniljoojoafiaaaGreatDoor
open Go.RowKit Go.Shelf
attribute [local go_sem] Oper.semAt_some
/- A list with one number. -/
def One (n0 : Nat) (d : Int) (e : Ending) (w' : World) : Prop := ∃ q c, e = .returned (.slice (some ⟨q, 0, none⟩) 1 c) ∧ n0 ≤ q ∧ w'.cell? ⟨q, 0, none⟩ = some (.int .u64 d) ∧ 1 ≤ c ∧ c ≤ maxLen
set_option maxRecDepth 100000 in
theorem collect_one {w : World} (g : Nat) (d : Int) (k : Calls Tryz.prog 100 #[.slice none 0 0, .func (.func 70) #[] #[.pointer (some ⟨g, 0, none⟩)]] w fun e w' => ∃ q c, e = .returned (.slice (some ⟨q, 0, none⟩) 1 c) ∧ w.heap.size ≤ q ∧ w'.cell? ⟨q, 0, none⟩ = some (.int .u64 d) ∧ 1 ≤ c ∧ c ≤ maxLen ∧ Below w.heap.size w w') :
    Calls Tryz.prog 68 #[.func (.func 70) #[] #[.pointer (some ⟨g, 0, none⟩)]] w fun e w' => One w.heap.size d e w' ∧ Below w.heap.size w w' := by
  go_enter Tryz.func68, Tryz.ntmps68
  go_wp2_with fail
  refine k.mono ?_
  rintro e w1 ⟨q, c, rfl, h1, h2, h3, h4, hb⟩
  go_wp2
  go_ret
  exact ⟨⟨q, c, rfl, h1, h2, h3, h4⟩, hb⟩
set_option maxRecDepth 100000 in
theorem sorted_one {w : World} (g m : Nat) (d : Int) (v : Value) (hd : 0 ≤ d ∧ d < 18446744073709551616) (hg : w.heap[g]? = some (.cells #[.map (some m)] 72 (0, 0))) (hm : M1 31 w m (.int .u64 d) v) :
    Calls Tryz.prog 43 #[.func (.func 70) #[] #[.pointer (some ⟨g, 0, none⟩)]] w fun e w' => One w.heap.size d e w' ∧ Below w.heap.size w w' := by
  have k := collect_one g d (aseq_one g 70 d (fun k => k = g ∨ k = m) (enters_of Tryz.func70 (by kernel_rfl) rfl) (fun k hk => by
    rcases hk with rfl | rfl
    · exact lt_of_row hg
    · exact hm.lt) (fun W hb => keys_seq g m d v hd ((hb.block _ (lt_of_row hg)).trans hg) (hm.later hb)))
  clear hm hg
  go_enter Tryz.func43, Tryz.ntmps43
  go_wp2_with fail
  refine k.mono ?_
  rintro e w1 ⟨⟨q, c, rfl, h1, h2, h3, h4⟩, hb⟩
  go_wp2_with fail
  refine (sort1 _ c w1).mono ?_
  rintro e w2 ⟨rfl, rfl⟩
  go_wp2
  go_ret
  exact ⟨⟨q, c, rfl, h1, h2, h3, h4⟩, hb⟩
theorem mk1 (w : World) : (Instr.makeSlice 130 (.int .i64 1) (.int .i64 1)).run Tryz.prog w = .ok (.slice (some ⟨w.heap.size, 0, none⟩) 1 1) (w.alloc (.cells zeroW 45)) := by kernel_rfl
set_option maxRecDepth 100000 in
set_option maxHeartbeats 2000000 in
theorem these_one {w : World} (b q c m : Nat) (d v : Int) (t : V.Tr) (A : V.Ad) (i s : Value) (hd : 0 ≤ d ∧ d < 18446744073709551616) (hr : w.heap[b]? = some (.cells #[.map (some m), i, s] 75 (0, 0))) (hm : M1 31 w m (.int .u64 d) (.agg (rwA d v t A))) (hq : w.cell? ⟨q, 0, none⟩ = some (.int .u64 d)) :
    Calls Tryz.prog 42 #[.pointer (some ⟨b, 0, none⟩), .slice (some ⟨q, 0, none⟩) 1 c] w fun e w' => ∃ g l, e = .returned (.func (.func 67) #[] #[.pointer (some ⟨g, 0, none⟩)]) ∧ w.heap.size ≤ g ∧ w.heap.size ≤ l ∧ w'.heap[g]? = some (.cells #[.slice (some ⟨l, 0, none⟩) 1 1] 130 (0, 0)) ∧ w'.heap[l]? = some (.cells (rwA d v t A) 45 (0, 0)) ∧ Below w.heap.size w w' := by
  have hmk := mk1 w
  obtain ⟨w1, hw1⟩ : ∃ w1, w.alloc (.cells zeroW 45) = w1 := ⟨_, rfl⟩
  rw [hw1] at hmk
  have hb1 : Below w.heap.size w w1 := by rw [← hw1]; exact (Below.refl _ w).alloc (Nat.le_refl _) _
  have s1 : w1.heap.size = w.heap.size + 1 := by rw [← hw1]; simp
  have r1 : w1.heap[w.heap.size]? = some (.cells zeroW 45 (0, 0)) := by rw [← hw1]; exact heap_alloc_new _ _
  obtain ⟨w2, hw2⟩ : ∃ w2, w1.alloc (.cells #[.slice (some ⟨w.heap.size, 0, none⟩) 1 1] 130) = w2 := ⟨_, rfl⟩
  have hb2 : Below w1.heap.size w1 w2 := by rw [← hw2]; exact (Below.refl _ w1).alloc (Nat.le_refl _) _
  have s2 : w2.heap.size = w.heap.size + 2 := by rw [← hw2]; simp; omega
  have r2 : w2.heap[w.heap.size + 1]? = some (.cells #[.slice (some ⟨w.heap.size, 0, none⟩) 1 1] 130 (0, 0)) := by rw [← hw2, ← s1]; exact heap_alloc_new _ _
  have p2 := (hb2.block _ (lt_of_row r1)).trans r1
  have hB2 : Below w.heap.size w w2 := hb1.trans (hb2.mono hb1.size)
  have q2 := (hB2.block _ (lt_of_row hr)).trans hr
  have m2 := hm.later hB2
  have c2 := (cell_later hB2 (V.block_lt hq) (o := 0)).trans hq
  have hlk := m2.look (t := 72) keyed31 Tryz.underlying72 (zero45 w2) (key31 hd) trivial
  have HW : Hid (w1.alloc (.cells #[.slice (some ⟨w.heap.size, 0, none⟩) 1 1] 130) = w2) := hw2
  have b0 := cell_of_row w2 b 0 _ _ _ q2
  have g0 : w2.cell? ⟨w1.heap.size, 0, none⟩ = some (.slice (some ⟨w.heap.size, 0, none⟩) 1 1) := by rw [s1]; exact cell_of_row w2 _ 0 _ _ _ r2
  clear hw1 hw2
  go_enter Tryz.func42, Tryz.ntmps42
  go_wp2
  rw [HW.out]
  go_loopw [13] (fun v13 wr => (v13 = .int .i64 0 ∧ wr = w2) ∨ (v13 = .int .i64 1 ∧ wr.heap[w.heap.size]? = some (.cells (rwA d v t A) 45 (0, 0)) ∧ wr.heap[w.heap.size + 1]? = some (.cells #[.slice (some ⟨w.heap.size, 0, none⟩) 1 1] 130 (0, 0)) ∧ Below w.heap.size w wr)) (fun v13 _ => (1 - intOf v13).toNat)
  case atStart => exact Or.inl ⟨rfl, rfl⟩
  case round =>
    rcases hrel with ⟨rfl, hw⟩ | ⟨rfl, hw⟩
    · rw [hw]
      clear hw
      have hlt : w.heap.size < w2.heap.size := by omega
      go_wp2
      refine B.any_tail (by kernel_rfl) 8 (by exact Nat.le_of_ble_eq_true rfl) (fun i => i + 18) (B.mixR [] [.slice (some ⟨w.heap.size, 0, none⟩) 1 1, .int .i64 0, .pointer (some ⟨b, 0, none⟩), .pointer (some ⟨b, 0, none⟩), .pointer (some ⟨b, 0, none⟩), .map (some m), .int .u64 d, .agg (rwA d v t A)]) (by kernel_rfl) (by kernel_rfl) (by kernel_rfl) (by kernel_rfl) (B.mixR_later _ _ (B.stab_nil)) ?step ?post
      case step =>
        intro iq hiq a W hrest hb hk
        have hp5 : a.eval (.tmp 5) = .pointer (some ⟨w.heap.size + 1, 0, none⟩) := (hrest 5 (by intro iq2 hiq2; (repeat' split) <;> omega)).trans rfl
        have fp5 := B.ev hp5
        have hx5 : W.heap[w.heap.size + 1]? = some (.cells #[.slice (some ⟨w.heap.size, 0, none⟩) 1 1] 130 (0, 0)) := (hb.block _ (lt_of_row r2)).trans r2
        have hp0 : a.eval (.tmp 0) = .pointer (some ⟨b, 0, none⟩) := (hrest 0 (by intro iq2 hiq2; (repeat' split) <;> omega)).trans rfl
        have fp0 := B.ev hp0
        have hx0 : W.heap[b]? = some (.cells #[.map (some m), i, s] 75 (0, 0)) := (hb.block _ (lt_of_row q2)).trans q2
        have hp6 : a.eval (.tmp 6) = .int .i64 0 := (hrest 6 (by intro iq2 hiq2; (repeat' split) <;> omega)).trans rfl
        have fp6 := B.ev hp6
        have hp7 : a.eval (.tmp 7) = .int .u64 d := (hrest 7 (by intro iq2 hiq2; (repeat' split) <;> omega)).trans rfl
        have fp7 := B.ev hp7
        clear hrest
        obtain rfl | rfl | rfl | rfl | rfl | rfl | rfl | rfl : iq = 0 ∨ iq = 1 ∨ iq = 2 ∨ iq = 3 ∨ iq = 4 ∨ iq = 5 ∨ iq = 6 ∨ iq = 7 := by omega
        · clear hiq
          have hc : W.cell? ⟨w.heap.size + 1, 0, none⟩ = some (.slice (some ⟨w.heap.size, 0, none⟩) 1 1) := cell_of_row W _ 0 _ _ _ hx5
          clear hk
          refine ⟨_, rfl, rfl, rfl, B.wp_value (v := .slice (some ⟨w.heap.size, 0, none⟩) 1 1) (w' := W) ?_ ⟨_, rfl, Below.refl _ _, rfl⟩⟩
          go_simp
        · clear hiq
          clear hk
          refine ⟨_, rfl, rfl, rfl, B.wp_value (v := .int .i64 0) (w' := W) ?_ ⟨_, rfl, Below.refl _ _, rfl⟩⟩
          go_simp
        · clear hiq
          clear hk
          refine ⟨_, rfl, rfl, rfl, B.wp_value (v := .pointer (some ⟨b, 0, none⟩)) (w' := W) ?_ ⟨_, rfl, Below.refl _ _, rfl⟩⟩
          go_simp
        · clear hiq
          have e2 : a.eval (.tmp 20) = .pointer (some ⟨b, 0, none⟩) := hk 2 (B.mem_of (by kernel_rfl))
          have f2 := B.ev e2
          clear hk
          refine ⟨_, rfl, rfl, rfl, B.wp_value (v := .pointer (some ⟨b, 0, none⟩)) (w' := W) ?_ ⟨_, rfl, Below.refl _ _, rfl⟩⟩
          go_simp
        · clear hiq
          have e3 : a.eval (.tmp 21) = .pointer (some ⟨b, 0, none⟩) := hk 3 (B.mem_of (by kernel_rfl))
          have f3 := B.ev e3
          clear hk
          refine ⟨_, rfl, rfl, rfl, B.wp_value (v := .pointer (some ⟨b, 0, none⟩)) (w' := W) ?_ ⟨_, rfl, Below.refl _ _, rfl⟩⟩
          go_simp
        · clear hiq
          have e4 : a.eval (.tmp 22) = .pointer (some ⟨b, 0, none⟩) := hk 4 (B.mem_of (by kernel_rfl))
          have f4 := B.ev e4
          have hc : W.cell? ⟨b, 0, none⟩ = some (.map (some m)) := cell_of_row W _ 0 _ _ _ hx0
          clear hk
          refine ⟨_, rfl, rfl, rfl, B.wp_value (v := .map (some m)) (w' := W) ?_ ⟨_, rfl, Below.refl _ _, rfl⟩⟩
          go_simp
        · clear hiq
          clear hk
          refine ⟨_, rfl, rfl, rfl, B.wp_value (v := .int .u64 d) (w' := W) ?_ ⟨_, rfl, Below.refl _ _, rfl⟩⟩
          go_simp
        · clear hiq
          have e5 : a.eval (.tmp 23) = .map (some m) := hk 5 (B.mem_of (by kernel_rfl))
          have f5 := B.ev e5
          have e6 : a.eval (.tmp 24) = .int .u64 d := hk 6 (B.mem_of (by kernel_rfl))
          have f6 := B.ev e6
          have hlk := (m2.later hb).look (t := 72) keyed31 Tryz.underlying72 (zero45 W) (key31 hd) trivial
          clear hk
          refine ⟨_, rfl, rfl, rfl, B.wp_value (v := .agg (rwA d v t A)) (w' := W) ?_ ⟨_, rfl, Below.refl _ _, rfl⟩⟩
          go_simp
      case post =>
        intro VV W hbW hV
        have e0 : VV 0 = .slice (some ⟨w.heap.size, 0, none⟩) 1 1 := hV 0 (by omega)
        have e1 : VV 1 = .int .i64 0 := hV 1 (by omega)
        have e7 : VV 7 = .agg (rwA d v t A) := hV 7 (by omega)
        clear hV
        simp only [B.putAll, Nat.reduceAdd]
        rw [e0, e1, e7]
        simp only [Act.put, List.setIfInBounds_toArray, List.set_cons_zero, List.set_cons_succ]
        have x1 := (hbW.block _ (lt_of_row p2)).trans p2
        have x2 := (hbW.block _ (lt_of_row r2)).trans r2
        have hBW : Below w.heap.size w W := hB2.trans (hbW.mono hB2.size)
        have hst := cells_row x1 (rwA d v t A) rfl (by simp [rwA, Value.oneCell'])
        go_wp2
        go_roundw
        case rel => exact Or.inr ⟨rfl, put_row _ x1 rfl, (put_other (by omega) _).trans x2, put_below hBW _ (Nat.le_refl _) _⟩
        case measure => simp [intOf]
    · obtain ⟨h1, h2, h3⟩ := hw
      go_wp2
      go_ret
      exact ⟨w.heap.size + 1, w.heap.size, rfl, by omega, Nat.le_refl _, h2, h1, h3⟩
end Go.Proofs.YtniljoojoafiaaaGreatDoor
