/- The numbers of a table with one document, sorted; the function over that one (these, All). All documents of a table with one; the function over that one, for a loop's body. -/
import Derived.Test.YtniljoojoafiaaaGreatDoorXal
import Derived.Test.YtniljoojoafiaaaGreatDoorPun
namespace Go.Proofs.YtniljoojoafiaaaGreatDoor
open Go.RowKit Go.Shelf
attribute [local go_sem] Oper.semAt_some
/- A list with one number. -/
def One (n0 : Nat) (d : Int) (e : Ending) (w' : World) : Prop := ∃ q c, e = .returned (.slice (some ⟨q, 0, none⟩) 1 c) ∧ n0 ≤ q ∧ w'.cell? ⟨q, 0, none⟩ = some (.int .u64 d) ∧ 1 ≤ c ∧ c ≤ maxLen
set_option maxRecDepth 100000 in
theorem collect_one {w : World} (g : Nat) (d : Int) (k : Calls Tryz.prog 100 #[.slice none 0 0, .func (.func 70) #[] #[.pointer (some ⟨g, 0, none⟩)]] w fun e w' => ∃ q c, e = .returned (.slice (some ⟨q, 0, none⟩) 1 c) ∧ w.heap.size ≤ q ∧ w'.cell? ⟨q, 0, none⟩ = some (.int .u64 d) ∧ 1 ≤ c ∧ c ≤ maxLen ∧ Below w.heap.size w w') :
    Calls Tryz.prog 68 #[.func (.func 70) #[] #[.pointer (some ⟨g, 0, none⟩)]] w fun e w' => One w.heap.size d e w' ∧ Below w.heap.size w w' := by
  go_enter Tryz.func68, Tryz.ntmps68
  go_wp2_with fail
  refine k.mono ?_
  rintro e w1 ⟨q, c, rfl, h1, h2, h3, h4, hb⟩
  go_wp2
  go_ret
  exact ⟨⟨q, c, rfl, h1, h2, h3, h4⟩, hb⟩
set_option maxRecDepth 100000 in
theorem sorted_one {w : World} (g m : Nat) (d : Int) (v : Value) (hd : 0 ≤ d ∧ d < 18446744073709551616) (hg : w.heap[g]? = some (.cells #[.map (some m)] 72 (0, 0))) (hm : M1 31 w m (.int .u64 d) v) :
    Calls Tryz.prog 43 #[.func (.func 70) #[] #[.pointer (some ⟨g, 0, none⟩)]] w fun e w' => One w.heap.size d e w' ∧ Below w.heap.size w w' := by
  have k := collect_one g d (aseq_one g 70 d (fun k => k = g ∨ k = m) (enters_of Tryz.func70 (by kernel_rfl) rfl) (fun k hk => by
    rcases hk with rfl | rfl
    · exact lt_of_row hg
    · exact hm.lt) (fun W hb => keys_seq g m d v hd ((hb.block _ (lt_of_row hg)).trans hg) (hm.later hb)))
  clear hm hg
  go_enter Tryz.func43, Tryz.ntmps43
  go_wp2_with fail
  refine k.mono ?_
  rintro e w1 ⟨⟨q, c, rfl, h1, h2, h3, h4⟩, hb⟩
  go_wp2_with fail
  refine (sort1 _ c w1).mono ?_
  rintro e w2 ⟨rfl, rfl⟩
  go_wp2
  go_ret
  exact ⟨⟨q, c, rfl, h1, h2, h3, h4⟩, hb⟩
theorem mk1 (w : World) : (Instr.makeSlice 130 (.int .i64 1) (.int .i64 1)).run Tryz.prog w = .ok (.slice (some ⟨w.heap.size, 0, none⟩) 1 1) (w.alloc (.cells zeroW 45)) := by kernel_rfl
set_option maxRecDepth 100000 in
set_option maxHeartbeats 2000000 in
theorem these_one {w : World} (b q c m : Nat) (d v : Int) (t : V.Tr) (A : V.Ad) (i s : Value) (hd : 0 ≤ d ∧ d < 18446744073709551616) (hr : w.heap[b]? = some (.cells #[.map (some m), i, s] 75 (0, 0))) (hm : M1 31 w m (.int .u64 d) (.agg (rwA d v t A))) (hq : w.cell? ⟨q, 0, none⟩ = some (.int .u64 d)) :
    Calls Tryz.prog 42 #[.pointer (some ⟨b, 0, none⟩), .slice (some ⟨q, 0, none⟩) 1 c] w fun e w' => ∃ g l, e = .returned (.func (.func 67) #[] #[.pointer (some ⟨g, 0, none⟩)]) ∧ w.heap.size ≤ g ∧ w.heap.size ≤ l ∧ w'.heap[g]? = some (.cells #[.slice (some ⟨l, 0, none⟩) 1 1] 130 (0, 0)) ∧ w'.heap[l]? = some (.cells (rwA d v t A) 45 (0, 0)) ∧ Below w.heap.size w w' := by
  have hmk := mk1 w
  obtain ⟨w1, hw1⟩ : ∃ w1, w.alloc (.cells zeroW 45) = w1 := ⟨_, rfl⟩
  rw [hw1] at hmk
  have hb1 : Below w.heap.size w w1 := by rw [← hw1]; exact (Below.refl _ w).alloc (Nat.le_refl _) _
  have s1 : w1.heap.size = w.heap.size + 1 := by rw [← hw1]; simp
  have r1 : w1.heap[w.heap.size]? = some (.cells zeroW 45 (0, 0)) := by rw [← hw1]; exact heap_alloc_new _ _
  obtain ⟨w2, hw2⟩ : ∃ w2, w1.alloc (.cells #[.slice (some ⟨w.heap.size, 0, none⟩) 1 1] 130) = w2 := ⟨_, rfl⟩
  have hb2 : Below w1.heap.size w1 w2 := by rw [← hw2]; exact (Below.refl _ w1).alloc (Nat.le_refl _) _
  have s2 : w2.heap.size = w.heap.size + 2 := by rw [← hw2]; simp; omega
  have r2 : w2.heap[w.heap.size + 1]? = some (.cells #[.slice (some ⟨w.heap.size, 0, none⟩) 1 1] 130 (0, 0)) := by rw [← hw2, ← s1]; exact heap_alloc_new _ _
  have p2 := (hb2.block _ (lt_of_row r1)).trans r1
  have hB2 : Below w.heap.size w w2 := hb1.trans (hb2.mono hb1.size)
  have q2 := (hB2.block _ (lt_of_row hr)).trans hr
  have m2 := hm.later hB2
  have c2 := (cell_later hB2 (V.block_lt hq) (o := 0)).trans hq
  have hlk := m2.look (t := 72) keyed31 Tryz.underlying72 (zero45 w2) (key31 hd) trivial
  have HW : Hid (w1.alloc (.cells #[.slice (some ⟨w.heap.size, 0, none⟩) 1 1] 130) = w2) := hw2
  have b0 := cell_of_row w2 b 0 _ _ _ q2
  have g0 : w2.cell? ⟨w1.heap.size, 0, none⟩ = some (.slice (some ⟨w.heap.size, 0, none⟩) 1 1) := by rw [s1]; exact cell_of_row w2 _ 0 _ _ _ r2
  clear hw1 hw2
  go_enter Tryz.func42, Tryz.ntmps42
  go_wp2
  rw [HW.out]
  go_loopw [13] (fun v13 wr => (v13 = .int .i64 0 ∧ wr = w2) ∨ (v13 = .int .i64 1 ∧ wr.heap[w.heap.size]? = some (.cells (rwA d v t A) 45 (0, 0)) ∧ wr.heap[w.heap.size + 1]? = some (.cells #[.slice (some ⟨w.heap.size, 0, none⟩) 1 1] 130 (0, 0)) ∧ Below w.heap.size w wr)) (fun v13 _ => (1 - intOf v13).toNat)
  case atStart => exact Or.inl ⟨rfl, rfl⟩
  case round =>
    rcases hrel with ⟨rfl, hw⟩ | ⟨rfl, hw⟩
    · rw [hw]
      clear hw
      have hlt : w.heap.size < w2.heap.size := by omega
      go_wp2
      refine B.any_tail (by kernel_rfl) 8 (by exact Nat.le_of_ble_eq_true rfl) (fun i => i + 18) (B.mixR [] [.slice (some ⟨w.heap.size, 0, none⟩) 1 1, .int .i64 0, .pointer (some ⟨b, 0, none⟩), .pointer (some ⟨b, 0, none⟩), .pointer (some ⟨b, 0, none⟩), .map (some m), .int .u64 d, .agg (rwA d v t A)]) (by kernel_rfl) (by kernel_rfl) (by kernel_rfl) (by kernel_rfl) (B.mixR_later _ _ (B.stab_nil)) ?step ?post
      case step =>
        intro iq hiq a W hrest hb hk
        have hp5 : a.eval (.tmp 5) = .pointer (some ⟨w.heap.size + 1, 0, none⟩) := (hrest 5 (by intro iq2 hiq2; (repeat' split) <;> omega)).trans rfl
        have fp5 := B.ev hp5
        have hx5 : W.heap[w.heap.size + 1]? = some (.cells #[.slice (some ⟨w.heap.size, 0, none⟩) 1 1] 130 (0, 0)) := (hb.block _ (lt_of_row r2)).trans r2
        have hp0 : a.eval (.tmp 0) = .pointer (some ⟨b, 0, none⟩) := (hrest 0 (by intro iq2 hiq2; (repeat' split) <;> omega)).trans rfl
        have fp0 := B.ev hp0
        have hx0 : W.heap[b]? = some (.cells #[.map (some m), i, s] 75 (0, 0)) := (hb.block _ (lt_of_row q2)).trans q2
        have hp6 : a.eval (.tmp 6) = .int .i64 0 := (hrest 6 (by intro iq2 hiq2; (repeat' split) <;> omega)).trans rfl
        have fp6 := B.ev hp6
        have hp7 : a.eval (.tmp 7) = .int .u64 d := (hrest 7 (by intro iq2 hiq2; (repeat' split) <;> omega)).trans rfl
        have fp7 := B.ev hp7
        clear hrest
        obtain rfl | rfl | rfl | rfl | rfl | rfl | rfl | rfl : iq = 0 ∨ iq = 1 ∨ iq = 2 ∨ iq = 3 ∨ iq = 4 ∨ iq = 5 ∨ iq = 6 ∨ iq = 7 := by omega
        · clear hiq
          have hc : W.cell? ⟨w.heap.size + 1, 0, none⟩ = some (.slice (some ⟨w.heap.size, 0, none⟩) 1 1) := cell_of_row W _ 0 _ _ _ hx5
          clear hk
          refine ⟨_, rfl, rfl, rfl, B.wp_value (v := .slice (some ⟨w.heap.size, 0, none⟩) 1 1) (w' := W) ?_ ⟨_, rfl, Below.refl _ _, rfl⟩⟩
          go_simp
        · clear hiq
          clear hk
          refine ⟨_, rfl, rfl, rfl, B.wp_value (v := .int .i64 0) (w' := W) ?_ ⟨_, rfl, Below.refl _ _, rfl⟩⟩
          go_simp
        · clear hiq
          clear hk
          refine ⟨_, rfl, rfl, rfl, B.wp_value (v := .pointer (some ⟨b, 0, none⟩)) (w' := W) ?_ ⟨_, rfl, Below.refl _ _, rfl⟩⟩
          go_simp
        · clear hiq
          have e2 : a.eval (.tmp 20) = .pointer (some ⟨b, 0, none⟩) := hk 2 (B.mem_of (by kernel_rfl))
          have f2 := B.ev e2
          clear hk
          refine ⟨_, rfl, rfl, rfl, B.wp_value (v := .pointer (some ⟨b, 0, none⟩)) (w' := W) ?_ ⟨_, rfl, Below.refl _ _, rfl⟩⟩
          go_simp
        · clear hiq
          have e3 : a.eval (.tmp 21) = .pointer (some ⟨b, 0, none⟩) := hk 3 (B.mem_of (by kernel_rfl))
          have f3 := B.ev e3
          clear hk
          refine ⟨_, rfl, rfl, rfl, B.wp_value (v := .pointer (some ⟨b, 0, none⟩)) (w' := W) ?_ ⟨_, rfl, Below.refl _ _, rfl⟩⟩
          go_simp
        · clear hiq
          have e4 : a.eval (.tmp 22) = .pointer (some ⟨b, 0, none⟩) := hk 4 (B.mem_of (by kernel_rfl))
          have f4 := B.ev e4
          have hc : W.cell? ⟨b, 0, none⟩ = some (.map (some m)) := cell_of_row W _ 0 _ _ _ hx0
          clear hk
          refine ⟨_, rfl, rfl, rfl, B.wp_value (v := .map (some m)) (w' := W) ?_ ⟨_, rfl, Below.refl _ _, rfl⟩⟩
          go_simp
        · clear hiq
          clear hk
          refine ⟨_, rfl, rfl, rfl, B.wp_value (v := .int .u64 d) (w' := W) ?_ ⟨_, rfl, Below.refl _ _, rfl⟩⟩
          go_simp
        · clear hiq
          have e5 : a.eval (.tmp 23) = .map (some m) := hk 5 (B.mem_of (by kernel_rfl))
          have f5 := B.ev e5
          have e6 : a.eval (.tmp 24) = .int .u64 d := hk 6 (B.mem_of (by kernel_rfl))
          have f6 := B.ev e6
          have hlk := (m2.later hb).look (t := 72) keyed31 Tryz.underlying72 (zero45 W) (key31 hd) trivial
          clear hk
          refine ⟨_, rfl, rfl, rfl, B.wp_value (v := .agg (rwA d v t A)) (w' := W) ?_ ⟨_, rfl, Below.refl _ _, rfl⟩⟩
          go_simp
      case post =>
        intro VV W hbW hV
        have e0 : VV 0 = .slice (some ⟨w.heap.size, 0, none⟩) 1 1 := hV 0 (by omega)
        have e1 : VV 1 = .int .i64 0 := hV 1 (by omega)
        have e7 : VV 7 = .agg (rwA d v t A) := hV 7 (by omega)
        clear hV
        simp only [B.putAll, Nat.reduceAdd]
        rw [e0, e1, e7]
        simp only [Act.put, List.setIfInBounds_toArray, List.set_cons_zero, List.set_cons_succ]
        have x1 := (hbW.block _ (lt_of_row p2)).trans p2
        have x2 := (hbW.block _ (lt_of_row r2)).trans r2
        have hBW : Below w.heap.size w W := hB2.trans (hbW.mono hB2.size)
        have hst := cells_row x1 (rwA d v t A) rfl (by simp [rwA, Value.oneCell'])
        go_wp2
        go_roundw
        case rel => exact Or.inr ⟨rfl, put_row _ x1 rfl, (put_other (by omega) _).trans x2, put_below hBW _ (Nat.le_refl _) _⟩
        case measure => simp [intOf]
    · obtain ⟨h1, h2, h3⟩ := hw
      go_wp2
      go_ret
      exact ⟨w.heap.size + 1, w.heap.size, rfl, by omega, Nat.le_refl _, h2, h1, h3⟩
end Go.Proofs.YtniljoojoafiaaaGreatDoor
namespace Go.Proofs.YtniljoojoafiaaaGreatDoor
open Go.RowKit Go.Shelf
attribute [local go_sem] Oper.semAt_some
/- A function over one document. -/
def Fd1 (n0 : Nat) (d v : Int) (t : V.Tr) (A : V.Ad) (e : Ending) (w' : World) : Prop := ∃ g l, e = .returned (.func (.func 67) #[] #[.pointer (some ⟨g, 0, none⟩)]) ∧ n0 ≤ g ∧ n0 ≤ l ∧ w'.heap[g]? = some (.cells #[.slice (some ⟨l, 0, none⟩) 1 1] 130 (0, 0)) ∧ w'.heap[l]? = some (.cells (rwA d v t A) 45 (0, 0))
set_option maxRecDepth 100000 in
set_option maxHeartbeats 2000000 in
theorem all_one {w : World} (b m : Nat) (d v : Int) (t : V.Tr) (A : V.Ad) (i s : Value) (hd : 0 ≤ d ∧ d < 18446744073709551616) (hr : w.heap[b]? = some (.cells #[.map (some m), i, s] 75 (0, 0))) (hm : M1 31 w m (.int .u64 d) (.agg (rwA d v t A))) :
    Calls Tryz.prog 24 #[.pointer (some ⟨b, 0, none⟩)] w fun e w' => Fd1 w.heap.size d v t A e w' ∧ Below w.heap.size w w' := by
  have c0 := cell_of_row w b 0 _ _ _ hr
  obtain ⟨w1, hw1⟩ : ∃ w1, w.alloc (.cells #[.map (some m)] 72) = w1 := ⟨_, rfl⟩
  have hb1 : Below w.heap.size w w1 := by rw [← hw1]; exact (Below.refl _ w).alloc (Nat.le_refl _) _
  have r1 : w1.heap[w.heap.size]? = some (.cells #[.map (some m)] 72 (0, 0)) := by rw [← hw1]; exact heap_alloc_new _ _
  have kk := keys_box m w
  rw [hw1] at kk
  have ks := sorted_one w.heap.size m d _ hd r1 (hm.later hb1)
  have q1 := (hb1.block _ (lt_of_row hr)).trans hr
  have m1 := hm.later hb1
  clear hw1
  go_enter Tryz.func24, Tryz.ntmps24
  go_wp2_with fail
  refine kk.mono ?_
  rintro e w1b ⟨rfl, rfl⟩
  clear c0
  go_wp2_with fail
  refine ks.mono ?_
  rintro e w2 ⟨⟨q, c, rfl, h1, h2, h3, h4⟩, hb2⟩
  have q2 := (hb2.block _ (lt_of_row q1)).trans q1
  have kt := these_one b q c m d v t A i s hd q2 (m1.later hb2) h2
  have hB2 : Below w.heap.size w w2 := hb1.trans (hb2.mono hb1.size)
  go_wp2_with fail
  refine kt.mono ?_
  rintro e w3 ⟨g, l, rfl, hg, hl, rg, rl, hb3⟩
  have hB3 : Below w.heap.size w w3 := hB2.trans (hb3.mono hB2.size)
  have := hB2.size
  go_wp2
  go_ret
  exact ⟨⟨g, l, rfl, by omega, by omega, rg, rl⟩, hB3⟩
def EnD (v : Int) (t : V.Tr) (C : Nat → Prop) (x : Int) (ar : Array Value) (W : World) : Prop := ∃ A, ar = #[.agg (rwA x v t A)] ∧ V.LiesS (fun k => ¬ C k) W t A
set_option maxRecDepth 100000 in
set_option maxHeartbeats 4000000 in
theorem these_seq {w : World} (g l : Nat) (d v : Int) (t : V.Tr) (A : V.Ad) (S : Nat → Prop) (hg : w.heap[g]? = some (.cells #[.slice (some ⟨l, 0, none⟩) 1 1] 130 (0, 0))) (hl : w.heap[l]? = some (.cells (rwA d v t A) 45 (0, 0))) (hL : V.LiesS S w t A) (hs : V.slimq t) :
    SeqW Tryz.prog 67 #[.pointer (some ⟨g, 0, none⟩)] (EnD v t) [d] (fun k => k = g ∨ k = l ∨ (S k ∧ k < w.heap.size)) w := by
  intro C yl J Jx W hbW hA hCW hJ hJx hY h0
  have hgC : ¬ C g := hA _ (Or.inl rfl)
  have hlC : ¬ C l := hA _ (Or.inr (Or.inl rfl))
  have hgW := (hbW.block _ (lt_of_row hg)).trans hg
  have hlW := (hbW.block _ (lt_of_row hl)).trans hl
  have hLW := lies_later (lies_lt hL) hbW
  have hc := cell_of_row W g 0 _ _ _ hgW
  have HY : Hid (∀ pre x ar U, J pre U → pre ++ [x] <+: [d] → EnD v t C x ar U → YieldAt Fence.wide 0 Tryz.prog yl ar U fun e V => (e = .returned (.bool true) ∧ J (pre ++ [x]) V ∧ B.KC C U V) ∨ (e = .returned (.bool false) ∧ Jx (pre ++ [x]) V ∧ B.KC C U V)) := hY
  have HJ : Hid (∀ s U V, J s U → StW W.heap.size U V → J s V) := hJ
  clear hY hJ hJx
  refine callsIn_of_wp Tryz.func67 rfl trivial ?_ rfl
  simp only [Tryz.ntmps67, List.size_toArray, List.length_cons, List.length_nil, Nat.reduceAdd, Nat.reduceSub, Array.replicate_succ, Array.replicate_zero, List.push_toArray, List.append_toArray, List.nil_append, List.cons_append]
  gi_wp2
  gi_loopw [7] (fun v7 wr => B.KC C W wr ∧ ((v7 = .int .i64 0 ∧ J [] wr) ∨ (v7 = .int .i64 1 ∧ J [d] wr))) (fun v7 _ => (1 - intOf v7).toNat)
  case atStart => exact ⟨B.KC.of (Below.refl _ _), Or.inl ⟨rfl, h0⟩⟩
  case round =>
    obtain ⟨hkr, ⟨rfl, hJr⟩ | ⟨rfl, hJr⟩⟩ := hrel
    · have hlr := (hkr.block _ (lt_of_row hlW) hlC).trans hlW
      have a0 : wr.cell? ⟨l, 0, none⟩ = some (.int .u64 d) := cell_of_row wr l 0 _ _ _ hlr
      have a1 : wr.cell? ⟨l, 1, none⟩ = some (.int .u64 v) := cell_of_row wr l 1 _ _ _ hlr
      have a2 : wr.cell? ⟨l, 2, none⟩ = some (.int .i64 t.k) := cell_of_row wr l 2 _ _ _ hlr
      have a3 : wr.cell? ⟨l, 3, none⟩ = some (.bool t.b) := cell_of_row wr l 3 _ _ _ hlr
      have a4 : wr.cell? ⟨l, 4, none⟩ = some (.int .i64 t.n) := cell_of_row wr l 4 _ _ _ hlr
      have a5 : wr.cell? ⟨l, 5, none⟩ = some (.string t.s) := cell_of_row wr l 5 _ _ _ hlr
      have a6 : wr.cell? ⟨l, 6, none⟩ = some (.slice A.pa t.m A.pc) := cell_of_row wr l 6 _ _ _ hlr
      have a7 : wr.cell? ⟨l, 7, none⟩ = some (.slice A.na t.q A.nc) := cell_of_row wr l 7 _ _ _ hlr
      obtain ⟨W1, hW1⟩ : ∃ W1, wr.alloc (.cells #[.int .u64 d, .int .u64 v, .int .i64 t.k, .bool t.b, .int .i64 t.n, .string t.s, .slice A.pa t.m A.pc, .slice A.na t.q A.nc] 45) = W1 := ⟨_, rfl⟩
      have hb1 : Below wr.heap.size wr W1 := by rw [← hW1]; exact (Below.refl _ wr).alloc (Nat.le_refl _) _
      have szW := hbW.size
      have szr := hkr.size
      have sz1 := hb1.size
      have hL1 : V.Lies W1.heap.size W1 t A := V.LiesS.up (fun k (hk : S k ∧ k < w.heap.size) => (by omega : k < W1.heap.size)) (lies_later (lies_keep hLW (w' := wr) (fun k hk hlt => hkr.block k hlt (hA k (Or.inr (Or.inr hk))))) hb1)
      have ko : Calls Tryz.prog 33 #[.agg #[.int .u64 d, .int .u64 v, .int .i64 t.k, .bool t.b, .int .i64 t.n, .string t.s, .slice A.pa t.m A.pc, .slice A.na t.q A.nc]] W1 fun e w' => ∃ A', e = .returned (.agg (rwA d v t A')) ∧ V.LiesS (fun k => W1.heap.size < k) w' t A' ∧ Below W1.heap.size W1 w' := own_any d v t A hL1 hs
      have HW : Hid (wr.alloc (.cells #[.int .u64 d, .int .u64 v, .int .i64 t.k, .bool t.b, .int .i64 t.n, .string t.s, .slice A.pa t.m A.pc, .slice A.na t.q A.nc] 45) = W1) := hW1
      clear hW1 hL1
      gi_wp2_with fail
      rw [HW.out]
      refine ⟨trivial, rfl, (callsIn_wide.2 ko).mono ?_⟩
      rintro e w2 ⟨A', rfl, hA', hb2⟩
      have hB2 : Below wr.heap.size wr w2 := hb1.trans (hb2.mono hb1.size)
      have hJ2 : J [] w2 := HJ.out _ _ _ hJr (StW.of hB2)
      have hk2 : B.KC C W w2 := hkr.trans (B.KC.of hB2)
      obtain ⟨fn, tmps, assign, body, hy, hR⟩ := B.YieldAt.inAny (m' := 0) (HY.out [] d _ w2 hJ2 (by simp) ⟨A', rfl, V.LiesS.up (fun k (hk : W1.heap.size < k) hc => absurd (hCW k hc) (by omega)) hA'⟩)
      clear a0 a1 a2 a3 a4 a5 a6 a7 hA' ko
      gi_wp2
      refine ⟨rfl, hR.mono ?_⟩
      rintro e W3 (⟨rfl, hJ3, hk3⟩ | ⟨rfl, hJx3, hk3⟩)
      · gi_wp2
        go_roundw
        case rel => exact ⟨hk2.trans hk3, Or.inr ⟨rfl, hJ3⟩⟩
        case measure => simp [intOf]
      · gi_wp2
        refine bodyPost_ret (results_none rfl _ _ _) rfl ?_
        exact ⟨⟨_, rfl⟩, Or.inr ⟨[d], by simp, hJx3⟩, hk2.trans hk3⟩
    · gi_wp2
      go_end0
      exact ⟨⟨_, rfl⟩, Or.inl hJr, hkr⟩
end Go.Proofs.YtniljoojoafiaaaGreatDoor
