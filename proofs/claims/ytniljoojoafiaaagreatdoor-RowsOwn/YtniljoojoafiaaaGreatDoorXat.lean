/- All documents of a table with one; the function over that one, for a loop's body. AddIndex of a field that has an index. A range over a function, where the loop's variable has a block of its own. -/
import Derived.Test.YtniljoojoafiaaaGreatDoorXas
import Derived.Test.YtniljoojoafiaaaGreatDoorXah
import Derived.Test.YtniljoojoafiaaaGreatDoorXai
namespace Go.Proofs.YtniljoojoafiaaaGreatDoor
open Go.RowKit Go.Shelf
attribute [local go_sem] Oper.semAt_some
/- A function over one document. -/
def Fd1 (n0 : Nat) (d v : Int) (t : V.Tr) (A : V.Ad) (e : Ending) (w' : World) : Prop := ∃ g l, e = .returned (.func (.func 67) #[] #[.pointer (some ⟨g, 0, none⟩)]) ∧ n0 ≤ g ∧ n0 ≤ l ∧ w'.heap[g]? = some (.cells #[.slice (some ⟨l, 0, none⟩) 1 1] 130 (0, 0)) ∧ w'.heap[l]? = some (.cells (rwA d v t A) 45 (0, 0))
set_option maxRecDepth 100000 in
set_option maxHeartbeats 2000000 in
theorem all_one {w : World} (b m : Nat) (d v : Int) (t : V.Tr) (A : V.Ad) (i s : Value) (hd : 0 ≤ d ∧ d < 18446744073709551616) (hr : w.heap[b]? = some (.cells #[.map (some m), i, s] 75 (0, 0))) (hm : M1 31 w m (.int .u64 d) (.agg (rwA d v t A))) :
    Calls Tryz.prog 24 #[.pointer (some ⟨b, 0, none⟩)] w fun e w' => Fd1 w.heap.size d v t A e w' ∧ Below w.heap.size w w' := by
  have c0 := cell_of_row w b 0 _ _ _ hr
  obtain ⟨w1, hw1⟩ : ∃ w1, w.alloc (.cells #[.map (some m)] 72) = w1 := ⟨_, rfl⟩
  have hb1 : Below w.heap.size w w1 := by rw [← hw1]; exact (Below.refl _ w).alloc (Nat.le_refl _) _
  have r1 : w1.heap[w.heap.size]? = some (.cells #[.map (some m)] 72 (0, 0)) := by rw [← hw1]; exact heap_alloc_new _ _
  have kk := keys_box m w
  rw [hw1] at kk
  have ks := sorted_one w.heap.size m d _ hd r1 (hm.later hb1)
  have q1 := (hb1.block _ (lt_of_row hr)).trans hr
  have m1 := hm.later hb1
  clear hw1
  go_enter Tryz.func24, Tryz.ntmps24
  go_wp2_with fail
  refine kk.mono ?_
  rintro e w1b ⟨rfl, rfl⟩
  clear c0
  go_wp2_with fail
  refine ks.mono ?_
  rintro e w2 ⟨⟨q, c, rfl, h1, h2, h3, h4⟩, hb2⟩
  have q2 := (hb2.block _ (lt_of_row q1)).trans q1
  have kt := these_one b q c m d v t A i s hd q2 (m1.later hb2) h2
  have hB2 : Below w.heap.size w w2 := hb1.trans (hb2.mono hb1.size)
  go_wp2_with fail
  refine kt.mono ?_
  rintro e w3 ⟨g, l, rfl, hg, hl, rg, rl, hb3⟩
  have hB3 : Below w.heap.size w w3 := hB2.trans (hb3.mono hB2.size)
  have := hB2.size
  go_wp2
  go_ret
  exact ⟨⟨g, l, rfl, by omega, by omega, rg, rl⟩, hB3⟩
def EnD (v : Int) (t : V.Tr) (C : Nat → Prop) (x : Int) (ar : Array Value) (W : World) : Prop := ∃ A, ar = #[.agg (rwA x v t A)] ∧ V.LiesS (fun k => ¬ C k) W t A
set_option maxRecDepth 100000 in
set_option maxHeartbeats 4000000 in
theorem these_seq {w : World} (g l : Nat) (d v : Int) (t : V.Tr) (A : V.Ad) (S : Nat → Prop) (hg : w.heap[g]? = some (.cells #[.slice (some ⟨l, 0, none⟩) 1 1] 130 (0, 0))) (hl : w.heap[l]? = some (.cells (rwA d v t A) 45 (0, 0))) (hL : V.LiesS S w t A) (hs : V.slimq t) :
    SeqW Tryz.prog 67 #[.pointer (some ⟨g, 0, none⟩)] (EnD v t) [d] (fun k => k = g ∨ k = l ∨ (S k ∧ k < w.heap.size)) w := by
  intro C yl J Jx W hbW hA hCW hJ hJx hY h0
  have hgC : ¬ C g := hA _ (Or.inl rfl)
  have hlC : ¬ C l := hA _ (Or.inr (Or.inl rfl))
  have hgW := (hbW.block _ (lt_of_row hg)).trans hg
  have hlW := (hbW.block _ (lt_of_row hl)).trans hl
  have hLW := lies_later (lies_lt hL) hbW
  have hc := cell_of_row W g 0 _ _ _ hgW
  have HY : Hid (∀ pre x ar U, J pre U → pre ++ [x] <+: [d] → EnD v t C x ar U → YieldAt Fence.wide 0 Tryz.prog yl ar U fun e V => (e = .returned (.bool true) ∧ J (pre ++ [x]) V ∧ B.KC C U V) ∨ (e = .returned (.bool false) ∧ Jx (pre ++ [x]) V ∧ B.KC C U V)) := hY
  have HJ : Hid (∀ s U V, J s U → StW W.heap.size U V → J s V) := hJ
  clear hY hJ hJx
  refine callsIn_of_wp Tryz.func67 rfl trivial ?_ rfl
  simp only [Tryz.ntmps67, List.size_toArray, List.length_cons, List.length_nil, Nat.reduceAdd, Nat.reduceSub, Array.replicate_succ, Array.replicate_zero, List.push_toArray, List.append_toArray, List.nil_append, List.cons_append]
  gi_wp2
  gi_loopw [7] (fun v7 wr => B.KC C W wr ∧ ((v7 = .int .i64 0 ∧ J [] wr) ∨ (v7 = .int .i64 1 ∧ J [d] wr))) (fun v7 _ => (1 - intOf v7).toNat)
  case atStart => exact ⟨B.KC.of (Below.refl _ _), Or.inl ⟨rfl, h0⟩⟩
  case round =>
    obtain ⟨hkr, ⟨rfl, hJr⟩ | ⟨rfl, hJr⟩⟩ := hrel
    · have hlr := (hkr.block _ (lt_of_row hlW) hlC).trans hlW
      have a0 : wr.cell? ⟨l, 0, none⟩ = some (.int .u64 d) := cell_of_row wr l 0 _ _ _ hlr
      have a1 : wr.cell? ⟨l, 1, none⟩ = some (.int .u64 v) := cell_of_row wr l 1 _ _ _ hlr
      have a2 : wr.cell? ⟨l, 2, none⟩ = some (.int .i64 t.k) := cell_of_row wr l 2 _ _ _ hlr
      have a3 : wr.cell? ⟨l, 3, none⟩ = some (.bool t.b) := cell_of_row wr l 3 _ _ _ hlr
      have a4 : wr.cell? ⟨l, 4, none⟩ = some (.int .i64 t.n) := cell_of_row wr l 4 _ _ _ hlr
      have a5 : wr.cell? ⟨l, 5, none⟩ = some (.string t.s) := cell_of_row wr l 5 _ _ _ hlr
      have a6 : wr.cell? ⟨l, 6, none⟩ = some (.slice A.pa t.m A.pc) := cell_of_row wr l 6 _ _ _ hlr
      have a7 : wr.cell? ⟨l, 7, none⟩ = some (.slice A.na t.q A.nc) := cell_of_row wr l 7 _ _ _ hlr
      obtain ⟨W1, hW1⟩ : ∃ W1, wr.alloc (.cells #[.int .u64 d, .int .u64 v, .int .i64 t.k, .bool t.b, .int .i64 t.n, .string t.s, .slice A.pa t.m A.pc, .slice A.na t.q A.nc] 45) = W1 := ⟨_, rfl⟩
      have hb1 : Below wr.heap.size wr W1 := by rw [← hW1]; exact (Below.refl _ wr).alloc (Nat.le_refl _) _
      have szW := hbW.size
      have szr := hkr.size
      have sz1 := hb1.size
      have hL1 : V.Lies W1.heap.size W1 t A := V.LiesS.up (fun k (hk : S k ∧ k < w.heap.size) => (by omega : k < W1.heap.size)) (lies_later (lies_keep hLW (w' := wr) (fun k hk hlt => hkr.block k hlt (hA k (Or.inr (Or.inr hk))))) hb1)
      have ko : Calls Tryz.prog 33 #[.agg #[.int .u64 d, .int .u64 v, .int .i64 t.k, .bool t.b, .int .i64 t.n, .string t.s, .slice A.pa t.m A.pc, .slice A.na t.q A.nc]] W1 fun e w' => ∃ A', e = .returned (.agg (rwA d v t A')) ∧ V.LiesS (fun k => W1.heap.size < k) w' t A' ∧ Below W1.heap.size W1 w' := own_any d v t A hL1 hs
      have HW : Hid (wr.alloc (.cells #[.int .u64 d, .int .u64 v, .int .i64 t.k, .bool t.b, .int .i64 t.n, .string t.s, .slice A.pa t.m A.pc, .slice A.na t.q A.nc] 45) = W1) := hW1
      clear hW1 hL1
      gi_wp2_with fail
      rw [HW.out]
      refine ⟨trivial, rfl, (callsIn_wide.2 ko).mono ?_⟩
      rintro e w2 ⟨A', rfl, hA', hb2⟩
      have hB2 : Below wr.heap.size wr w2 := hb1.trans (hb2.mono hb1.size)
      have hJ2 : J [] w2 := HJ.out _ _ _ hJr (StW.of hB2)
      have hk2 : B.KC C W w2 := hkr.trans (B.KC.of hB2)
      obtain ⟨fn, tmps, assign, body, hy, hR⟩ := B.YieldAt.inAny (m' := 0) (HY.out [] d _ w2 hJ2 (by simp) ⟨A', rfl, V.LiesS.up (fun k (hk : W1.heap.size < k) hc => absurd (hCW k hc) (by omega)) hA'⟩)
      clear a0 a1 a2 a3 a4 a5 a6 a7 hA' ko
      gi_wp2
      refine ⟨rfl, hR.mono ?_⟩
      rintro e W3 (⟨rfl, hJ3, hk3⟩ | ⟨rfl, hJx3, hk3⟩)
      · gi_wp2
        go_roundw
        case rel => exact ⟨hk2.trans hk3, Or.inr ⟨rfl, hJ3⟩⟩
        case measure => simp [intOf]
      · gi_wp2
        refine bodyPost_ret (results_none rfl _ _ _) rfl ?_
        exact ⟨⟨_, rfl⟩, Or.inr ⟨[d], by simp, hJx3⟩, hk2.trans hk3⟩
    · gi_wp2
      go_end0
      exact ⟨⟨_, rfl⟩, Or.inl hJr, hkr⟩
end Go.Proofs.YtniljoojoafiaaaGreatDoor
namespace Go.Proofs.YtniljoojoafiaaaGreatDoor
open Go.RowKit Go.Shelf
attribute [local go_sem] Oper.semAt_some
theorem keyed9 : Maps.Keyed Tryz.prog 9 := Maps.string_keyed Tryz.underlying9
theorem zero76 (w : World) : (zeroValue 76).run Tryz.prog w = .ok (.pointer none) w := by kernel_rfl
theorem key9 {s : ByteArray} (h : s.size ≤ maxLen) : keyOf Tryz.prog 9 (.string s) = some (.string s.data.toList) := WideMaps.keyOf_string_mk Tryz.underlying9 h
theorem look9_none {f : ByteArray} (h : f.size ≤ maxLen) (w : World) : (Instr.lookup 73 (.map none) (.string f) false).run Tryz.prog w = .ok (.pointer none) w :=
  Maps.look_nil false keyed9 Tryz.underlying73 (zero76 w) (key9 h)
set_option maxRecDepth 100000 in
set_option maxHeartbeats 4000000 in
theorem addIndex_again {w : World} (b x tr : Nat) (f : ByteArray) (hf : f.size ≤ maxLen) (m : Option Nat) (hr : w.heap[b]? = some (.cells #[.map m, .map (some x), .bool false] 75 (0, 0))) (hx : M1 9 w x (.string f.data.toList) (.pointer (some ⟨tr, 0, none⟩))) :
    Calls Tryz.prog 11 #[.pointer (some ⟨b, 0, none⟩), .string f] w fun e w' => e = .returned (.bool false) ∧ Below w.heap.size w w' := by
  obtain ⟨w1, hw1⟩ : ∃ w1, w.alloc (.cells #[.string f] 9) = w1 := ⟨_, rfl⟩
  have hb1 : Below w.heap.size w w1 := by rw [← hw1]; exact (Below.refl _ w).alloc (Nat.le_refl _) _
  have r1 : w1.heap[w.heap.size]? = some (.cells #[.string f] 9 (0, 0)) := by rw [← hw1]; exact heap_alloc_new _ _
  have q1 := (hb1.block _ (lt_of_row hr)).trans hr
  have x1 := hx.later hb1
  have HW : Hid (w.alloc (.cells #[.string f] 9) = w1) := hw1
  clear hw1
  refine (callsIn_wide (n := 0)).1 ?_
  refine callsIn_of_wp_marks Tryz.func11 rfl trivial ?_ rfl
  simp only [Tryz.ntmps11, List.size_toArray, List.length_cons, List.length_nil, Nat.reduceAdd, Nat.reduceSub, Array.replicate_succ, Array.replicate_zero, List.push_toArray, List.append_toArray, List.nil_append, List.cons_append]
  gi_wp2
  rw [HW.out]
  refine B.any_tailIn (by kernel_rfl) 11 (by exact Nat.le_of_ble_eq_true rfl) (fun i => i + 7) (B.mixR [] [.pointer (some ⟨b, 0, none⟩), .bool false, .bool false, .pointer (some ⟨b, 0, none⟩), .pointer (some ⟨b, 0, none⟩), .pointer (some ⟨b, 1, none⟩), .map (some x), .string f, .pointer (some ⟨tr, 0, none⟩), .bool true, .bool true]) (by kernel_rfl) (by kernel_rfl) (by kernel_rfl) (by kernel_rfl) (B.mixR_later _ _ (B.stab_nil)) ?step ?post
  case step =>
    intro iq hiq a W hrest hb hk
    have hp0 : a.eval (.tmp 0) = .pointer (some ⟨b, 0, none⟩) := (hrest 0 (by intro iq2 hiq2; (repeat' split) <;> omega)).trans rfl
    have fp0 := B.ev hp0
    have hx0 : W.heap[b]? = some (.cells #[.map m, .map (some x), .bool false] 75 (0, 0)) := (hb.block _ (lt_of_row q1)).trans q1
    have hp3 : a.eval (.tmp 3) = .pointer (some ⟨w.heap.size, 0, none⟩) := (hrest 3 (by intro iq2 hiq2; (repeat' split) <;> omega)).trans rfl
    have fp3 := B.ev hp3
    have hx3 : W.heap[w.heap.size]? = some (.cells #[.string f] 9 (0, 0)) := (hb.block _ (lt_of_row r1)).trans r1
    clear hrest
    obtain rfl | rfl | rfl | rfl | rfl | rfl | rfl | rfl | rfl | rfl | rfl : iq = 0 ∨ iq = 1 ∨ iq = 2 ∨ iq = 3 ∨ iq = 4 ∨ iq = 5 ∨ iq = 6 ∨ iq = 7 ∨ iq = 8 ∨ iq = 9 ∨ iq = 10 := by omega
    · clear hiq
      clear hk
      refine ⟨_, rfl, rfl, Or.inl ⟨B.wanted_none rfl, B.wpIn_value (v := .pointer (some ⟨b, 0, none⟩)) (w' := W) ?_ ⟨_, rfl, Below.refl _ _, rfl⟩⟩⟩
      go_simp
    · clear hiq
      have e0 : a.eval (.tmp 7) = .pointer (some ⟨b, 0, none⟩) := hk 0 (B.mem_of (by kernel_rfl))
      have f0 := B.ev e0
      clear hk
      refine ⟨_, rfl, rfl, Or.inl ⟨B.wanted_none rfl, B.wpIn_value (v := .bool false) (w' := W) ?_ ⟨_, rfl, Below.refl _ _, rfl⟩⟩⟩
      go_simp
    · clear hiq
      have e1 : a.eval (.tmp 8) = .bool false := hk 1 (B.mem_of (by kernel_rfl))
      have f1 := B.ev e1
      clear hk
      refine ⟨_, rfl, rfl, Or.inl ⟨B.wanted_none rfl, B.wpIn_value (v := .bool false) (w' := W) ?_ ⟨_, rfl, Below.refl _ _, rfl⟩⟩⟩
      go_simp
    · clear hiq
      have e2 : a.eval (.tmp 9) = .bool false := hk 2 (B.mem_of (by kernel_rfl))
      have f2 := B.ev e2
      clear hk
      refine ⟨_, rfl, rfl, Or.inl ⟨B.wanted_of (k := 2) (b := false) rfl rfl e2, B.wpIn_value (v := .pointer (some ⟨b, 0, none⟩)) (w' := W) ?_ ⟨_, rfl, Below.refl _ _, rfl⟩⟩⟩
      go_simp
    · clear hiq
      have e2 : a.eval (.tmp 9) = .bool false := hk 2 (B.mem_of (by kernel_rfl))
      have f2 := B.ev e2
      have e3 : a.eval (.tmp 10) = .pointer (some ⟨b, 0, none⟩) := hk 3 (B.mem_of (by kernel_rfl))
      have f3 := B.ev e3
      clear hk
      refine ⟨_, rfl, rfl, Or.inl ⟨B.wanted_of (k := 2) (b := false) rfl rfl e2, B.wpIn_value (v := .pointer (some ⟨b, 0, none⟩)) (w' := W) ?_ ⟨_, rfl, Below.refl _ _, rfl⟩⟩⟩
      go_simp
    · clear hiq
      have e2 : a.eval (.tmp 9) = .bool false := hk 2 (B.mem_of (by kernel_rfl))
      have f2 := B.ev e2
      have e4 : a.eval (.tmp 11) = .pointer (some ⟨b, 0, none⟩) := hk 4 (B.mem_of (by kernel_rfl))
      have f4 := B.ev e4
      clear hk
      refine ⟨_, rfl, rfl, Or.inl ⟨B.wanted_of (k := 2) (b := false) rfl rfl e2, B.wpIn_value (v := .pointer (some ⟨b, 1, none⟩)) (w' := W) ?_ ⟨_, rfl, Below.refl _ _, rfl⟩⟩⟩
      go_simp
    · clear hiq
      have e2 : a.eval (.tmp 9) = .bool false := hk 2 (B.mem_of (by kernel_rfl))
      have f2 := B.ev e2
      have e5 : a.eval (.tmp 12) = .pointer (some ⟨b, 1, none⟩) := hk 5 (B.mem_of (by kernel_rfl))
      have f5 := B.ev e5
      have hc : W.cell? ⟨b, 1, none⟩ = some (.map (some x)) := cell_of_row W _ 1 _ _ _ hx0
      clear hk
      refine ⟨_, rfl, rfl, Or.inl ⟨B.wanted_of (k := 2) (b := false) rfl rfl e2, B.wpIn_value (v := .map (some x)) (w' := W) ?_ ⟨_, rfl, Below.refl _ _, rfl⟩⟩⟩
      go_simp
    · clear hiq
      have e2 : a.eval (.tmp 9) = .bool false := hk 2 (B.mem_of (by kernel_rfl))
      have f2 := B.ev e2
      have hc : W.cell? ⟨w.heap.size, 0, none⟩ = some (.string f) := cell_of_row W _ 0 _ _ _ hx3
      clear hk
      refine ⟨_, rfl, rfl, Or.inl ⟨B.wanted_of (k := 2) (b := false) rfl rfl e2, B.wpIn_value (v := .string f) (w' := W) ?_ ⟨_, rfl, Below.refl _ _, rfl⟩⟩⟩
      go_simp
    · clear hiq
      have e2 : a.eval (.tmp 9) = .bool false := hk 2 (B.mem_of (by kernel_rfl))
      have f2 := B.ev e2
      have e6 : a.eval (.tmp 13) = .map (some x) := hk 6 (B.mem_of (by kernel_rfl))
      have f6 := B.ev e6
      have e7 : a.eval (.tmp 14) = .string f := hk 7 (B.mem_of (by kernel_rfl))
      have f7 := B.ev e7
      have hlk := (x1.later hb).look (t := 73) keyed9 Tryz.underlying73 (zero76 W) (key9 hf) trivial
      clear hk
      refine ⟨_, rfl, rfl, Or.inl ⟨B.wanted_of (k := 2) (b := false) rfl rfl e2, B.wpIn_value (v := .pointer (some ⟨tr, 0, none⟩)) (w' := W) ?_ ⟨_, rfl, Below.refl _ _, rfl⟩⟩⟩
      go_simp
    · clear hiq
      have e2 : a.eval (.tmp 9) = .bool false := hk 2 (B.mem_of (by kernel_rfl))
      have f2 := B.ev e2
      have e8 : a.eval (.tmp 15) = .pointer (some ⟨tr, 0, none⟩) := hk 8 (B.mem_of (by kernel_rfl))
      have f8 := B.ev e8
      clear hk
      refine ⟨_, rfl, rfl, Or.inl ⟨B.wanted_of (k := 2) (b := false) rfl rfl e2, B.wpIn_value (v := .bool true) (w' := W) ?_ ⟨_, rfl, Below.refl _ _, rfl⟩⟩⟩
      go_simp
    · clear hiq
      have e2 : a.eval (.tmp 9) = .bool false := hk 2 (B.mem_of (by kernel_rfl))
      have f2 := B.ev e2
      have e9 : a.eval (.tmp 16) = .bool true := hk 9 (B.mem_of (by kernel_rfl))
      have f9 := B.ev e9
      clear hk
      refine ⟨_, rfl, rfl, Or.inl ⟨B.wanted_none rfl, B.wpIn_value (v := .bool true) (w' := W) ?_ ⟨_, rfl, Below.refl _ _, rfl⟩⟩⟩
      go_simp
  case post =>
    intro VV W hbW hV
    have e10 : VV 10 = .bool true := hV 10 (by omega)
    have hBW : Below w.heap.size w W := hb1.trans (hbW.mono hb1.size)
    clear hV
    simp only [B.putAll, Nat.reduceAdd]
    rw [e10]
    simp only [Act.put, List.setIfInBounds_toArray, List.set_cons_zero, List.set_cons_succ]
    change wpListIn _ _ _ _ _ [] _ _
    gi_wp2
    exact ⟨.bool false, by simp [results, Tryz.results11, go_sem], rfl, hBW⟩
end Go.Proofs.YtniljoojoafiaaaGreatDoor
namespace Go.Proofs.YtniljoojoafiaaaGreatDoor
open Go Go.RowKit
set_option maxRecDepth 100000 in
theorem range_v {P : Program} {α : Type} {m : Nat} {g : Operand} {ps : Array Tmp} {assign body : Code} {Q : Exit → Act → World → Prop} {a : Act} {w : World}
    {gf : Nat} {lb : Array Value} (hg : a.eval g = .func (.func gf) #[] lb) (eg : ∀ args W, (callFunc gf args).run P W = .ok (.enter gf args) W)
    {En : (Nat → Prop) → α → Array Value → World → Prop} {xs : List α} {A : Nat → Prop} (hseq : SeqW P gf lb En xs A w) (hps : ∀ D x ar W, En D x ar W → ar.size = ps.size)
    (hEn : ∀ (D : Nat → Prop) x ar U V, En D x ar U → B.KC D U V → En D x ar V)
    (C : Nat → Prop) (hA : ∀ k, A k → k < w.heap.size ∧ ¬ C k) (hC : ∀ k, C k → k < w.heap.size)
    (I : List α → World → Prop) (Ix : Code → List α → World → Prop) (hI : ∀ s U V, I s U → StW w.heap.size U V → I s V) (hIx : ∀ c s U V, Ix c s U → StW w.heap.size U V → Ix c s V) (h0 : I [] w) (As : Array Value → Act → World → Prop) (hAs : ∀ ar a' U V, As ar a' U → StW w.heap.size U V → As ar a' V)
    (hassign : ∀ (l : Nat) (D : Nat → Prop) (x : α) (ar : Array Value) (W : World) (K : Act → World → Prop), En D x ar W → (∀ a' W', As ar a' W' → Below W.heap.size W W' → K a' W') →
      assign.wpIn (Fence.wide.inRound l) 0 P (Exit.then K (fun _ _ _ => False)) { tmps := (ps.zip ar).foldl (fun t (p, v) => t.setIfInBounds p v) a.tmps, defers := [] } W)
    (hbody : ∀ (l : Nat) (D : Nat → Prop) (pre : List α) (x : α) (ar : Array Value) (a' : Act) (W : World), (∀ k, C k → D k) → En D x ar W → As ar a' W → I pre W → pre ++ [x] <+: xs → w.heap.size ≤ W.heap.size → body.wpIn (Fence.wide.inRound l) 0 P (B.bPost C I Ix (pre ++ [x]) W) a' W)
    (hdone : ∀ (W : World), I xs W → B.KC (fun k => C k ∨ w.heap.size ≤ k) w W → W.heap[w.heap.size]? = some (.deferred (some [])) → Q .normal { a with defers := { target := .collected w.heap.size, args := #[] } :: a.defers } W)
    (hstop : ∀ (c : Code) (pre : List α) (W : World), pre <+: xs → Ix c pre W → B.KC (fun k => C k ∨ w.heap.size ≤ k) w W → W.heap[w.heap.size]? = some (.deferred (some [])) → c.wpIn Fence.wide m P Q { a with defers := { target := .collected w.heap.size, args := #[] } :: a.defers } W) :
    (Code.rangeFunc g ps assign body).wpIn Fence.wide m P Q a w := by
  refine wpIn_rangeFunc fun fn hfn => ?_
  obtain ⟨rc, hrc⟩ : ∃ rc : LoopState → Option Code → Loop, rc = fun st pe => { state := st, pending := pe, fn, tmps := a.tmps, params := ps, assign, body, defers := w.heap.size } := ⟨_, rfl⟩
  have he := run_enterLoop_outer (P := P) (w := w) fn a.tmps ps assign body
  obtain ⟨W1, hW1⟩ : ∃ W1, (w.alloc (.deferred (some []))).alloc (.loop (rc .ready none)) = W1 := ⟨_, rfl⟩
  have hl1 : W1.heap[w.heap.size + 1]? = some (.loop (rc .ready none)) := by
    rw [← hW1]
    have h := World.alloc_heap_new (w.alloc (.deferred (some []))) (.loop (rc .ready none))
    rwa [World.size_alloc] at h
  have hk1 : W1.heap[w.heap.size]? = some (.deferred (some [])) := by
    rw [← hW1, Below.heap_alloc _ _ _ (by simp)]; exact World.alloc_heap_new w _
  have hb1 : Below w.heap.size w W1 := by
    rw [← hW1]; exact ((Below.refl _ w).alloc (Nat.le_refl _) _).alloc (by simp) _
  have hs1 : W1.heap.size = w.heap.size + 2 := by rw [← hW1]; simp
  have hrd : ∀ (o : Obj) (U V : World), StW W1.heap.size U V → U.heap[w.heap.size + 1]? = some o → V.heap[w.heap.size + 1]? = some o := fun o U V hb h => (hb.block _ (Array.getElem?_eq_some_iff.1 h).1 (Or.inl (by omega))).trans h
  have hrk : ∀ (o : Obj) (U V : World), StW W1.heap.size U V → U.heap[w.heap.size]? = some o → V.heap[w.heap.size]? = some o := fun o U V hb h => (hb.block _ (Array.getElem?_eq_some_iff.1 h).1 (Or.inl (by omega))).trans h
  have hR := hseq (fun k => C k ∨ k = w.heap.size ∨ k = w.heap.size + 1) (w.heap.size + 1)
    (fun pre U => I pre U ∧ U.heap[w.heap.size + 1]? = some (.loop (rc .ready none)) ∧ U.heap[w.heap.size]? = some (.deferred (some [])))
    (fun pre U => ∃ c, Ix c pre U ∧ U.heap[w.heap.size + 1]? = some (.loop (rc .done (some c))) ∧ U.heap[w.heap.size]? = some (.deferred (some [])))
    W1 hb1 (fun k hk h => by
      obtain ⟨h1, h2⟩ := hA k hk
      rcases h with h | rfl | rfl
      · exact h2 h
      · omega
      · omega) (fun k h => by
      rcases h with h | rfl | rfl
      · have := hC k h; omega
      · omega
      · omega)
    (fun s U V hs hb => ⟨hI s U V hs.1 (hb.mono (by omega)), hrd _ U V hb hs.2.1, hrk _ U V hb hs.2.2⟩)
    (fun s U V hs hb => by
      obtain ⟨c, h1, h2, h3⟩ := hs
      exact ⟨c, hIx c s U V h1 (hb.mono (by omega)), hrd _ U V hb h2, hrk _ U V hb h3⟩) ?round ⟨hI [] w W1 h0 (StW.of hb1), hl1, hk1⟩
  case round =>
    rintro pre x ar W ⟨hi, hl, hk⟩ hpre hen
    have hy := run_yield (P := P) (args := ar) hl (by rw [hrc]; exact hps _ x ar W hen)
    rw [hrc] at hy
    have hlt : w.heap.size + 1 < W.heap.size := (Array.getElem?_eq_some_iff.1 hl).1
    refine ⟨fn, _, assign, body, hy, roundIn_of_wpIn hfn (hassign _ _ x ar W _ hen ?_)⟩
    intro a1 Wa has hba
    replace hi := hI _ _ _ hi (StW.of hba)
    replace hk := (hba.block _ (by omega)).trans hk
    replace hen := hEn _ x ar W Wa hen (B.KC.of hba)
    have hsa := hba.size
    have hla := (hba.block _ (by omega)).trans hl
    refine ⟨_, run_beginRound hla (by rw [hrc]), ?_⟩
    obtain ⟨W2, hW2⟩ : ∃ W2, Wa.putObj (w.heap.size + 1) (.loop { rc .ready none with state := .busy }) = W2 := ⟨_, rfl⟩
    rw [hW2]
    have hl2 : W2.heap[w.heap.size + 1]? = some (.loop { rc .ready none with state := .busy }) := by rw [← hW2]; exact World.putObj_heap_same (by omega)
    have hk2 : W2.heap[w.heap.size]? = some (.deferred (some [])) := by rw [← hW2]; exact (World.putObj_heap_other (by omega)).trans hk
    have hb2 : StW w.heap.size Wa W2 := by rw [← hW2]; exact putObj_st Wa _ hla rfl (by omega)
    have hc2 : B.KC (fun k => C k ∨ k = w.heap.size ∨ k = w.heap.size + 1) Wa W2 := by rw [← hW2]; exact B.putObj_kc Wa _ (Or.inr (Or.inr rfl))
    refine wpIn_mono (hbody _ _ pre x ar a1 W2 (fun k h => Or.inl h) (hEn _ x ar Wa W2 hen hc2) (hAs _ _ _ _ has hb2) (hI _ _ _ hi hb2) hpre (by have := hb2.size; omega)) ?_
    replace hc2 := (B.KC.of (C := fun k => C k ∨ k = w.heap.size ∨ k = w.heap.size + 1) hba).trans hc2
    have fin : ∀ (jump : Option Code) (W3 : World), B.KC C W2 W3 →
        ∃ W4, (Instr.endRound (w.heap.size + 1) jump).run P W3 = .ok (.bool jump.isNone) W4 ∧ W4.heap[w.heap.size + 1]? = some (.loop (rc (if jump.isNone then .ready else .done) jump)) ∧ W4.heap[w.heap.size]? = some (.deferred (some [])) ∧ StW w.heap.size W3 W4 ∧
          B.KC (fun k => C k ∨ k = w.heap.size ∨ k = w.heap.size + 1) W W4 := fun jump W3 h3 => by
      have hl2s := (Array.getElem?_eq_some_iff.1 hl2).1
      have hk2s := (Array.getElem?_eq_some_iff.1 hk2).1
      have hl3 := (h3.block _ hl2s (fun h => by have := hC _ h; omega)).trans hl2
      have hk3 := (h3.block _ hk2s (fun h => by have := hC _ h; omega)).trans hk2
      have hlt3 := (Array.getElem?_eq_some_iff.1 hl3).1
      have hend := run_endRound (P := P) jump hl3
      refine ⟨_, hend, ?_, ?_, putObj_st W3 _ hl3 rfl (by omega), (hc2.trans (h3.mono (fun k h => Or.inl h))).trans (B.putObj_kc W3 _ (Or.inr (Or.inr rfl)))⟩
      · rw [World.putObj_heap_same hlt3, hrc]
      · exact (World.putObj_heap_other (by omega)).trans hk3
    rintro e a3 W3 hp
    cases e with
    | normal =>
      obtain ⟨h3, hi3⟩ := hp
      obtain ⟨W4, hr, hl4, hk4, hb4, hc4⟩ := fin none W3 h3
      exact ⟨_, _, hr, .inl ⟨rfl, ⟨hI _ _ _ hi3 hb4, hl4, hk4⟩, hc4⟩⟩
    | ret =>
      obtain ⟨h3, hi3⟩ := hp
      obtain ⟨W4, hr, hl4, hk4, hb4, hc4⟩ := fin (some .ret) W3 h3
      exact ⟨_, _, hr, .inr ⟨rfl, ⟨.ret, hIx _ _ _ _ hi3 hb4, hl4, hk4⟩, hc4⟩⟩
    | exit id =>
      obtain ⟨h3, hi3⟩ := hp
      obtain ⟨W4, hr, hl4, hk4, hb4, hc4⟩ := fin (some (.exit id)) W3 h3
      exact ⟨_, _, hr, .inr ⟨rfl, ⟨.exit id, hIx _ _ _ _ hi3 hb4, hl4, hk4⟩, hc4⟩⟩
    | goto t =>
      obtain ⟨h3, hi3⟩ := hp
      obtain ⟨W4, hr, hl4, hk4, hb4, hc4⟩ := fin (some (.goto t)) W3 h3
      exact ⟨_, _, hr, .inr ⟨rfl, ⟨.goto t, hIx _ _ _ _ hi3 hb4, hl4, hk4⟩, hc4⟩⟩
    | panic ch => exact hp.elim
    | outgrown => exact hp.elim
  refine ⟨w.heap.size + 1, [{ target := .collected w.heap.size, args := #[] }], W1, { target := .fn (.func gf) lb, args := #[.func (.yield (w.heap.size + 1)) #[] #[]] }, W1, gf,
    #[.func (.yield (w.heap.size + 1)) #[] #[]] ++ lb, W1, ?_, ?_, fun _ _ => trivial, ?_, fun h => (by cases h), ?_⟩
  · rw [← hW1, hrc]; exact he
  · simp only [resolve, hg]
    simp [go_sem]
  · simp [invoke, go_sem, eg]
  · refine (callsIn_wide.2 (callsIn_wide.1 hR)).mono ?_
    rintro e W2 ⟨⟨v, rfl⟩, hz, hkc⟩
    have hkc2 : B.KC (fun k => C k ∨ w.heap.size ≤ k) w W2 := (B.KC.of hb1).trans (hkc.mono (fun k h => h.elim Or.inl (fun h => Or.inr (by omega))))
    have hp2 : ∀ o, B.KC (fun k => C k ∨ w.heap.size ≤ k) w (W2.putObj (w.heap.size + 1) o) := fun o => hkc2.trans (B.putObj_kc W2 o (Or.inr (Nat.le_succ _)))
    rcases hz with ⟨hi, hl, hk⟩ | ⟨pre, hpre, c, hi, hl, hk⟩
    · exact ⟨none, _, by have := run_endLoop (P := P) hl (by rw [hrc]; simp); rw [hrc] at this; exact this, hdone _ (hI _ _ _ hi (putObj_st W2 _ hl rfl (by omega))) (hp2 _) ((World.putObj_heap_other (by omega)).trans hk)⟩
    · exact ⟨some c, _, by have := run_endLoop (P := P) hl (by rw [hrc]; simp); rw [hrc] at this; exact this, hstop c pre _ hpre (hIx _ _ _ _ hi (putObj_st W2 _ hl rfl (by omega))) (hp2 _) ((World.putObj_heap_other (by omega)).trans hk)⟩
end Go.Proofs.YtniljoojoafiaaaGreatDoor
