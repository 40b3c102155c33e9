/- RowsOwn: what is handed in, and out, may be changed later, and nothing here is. -/
import Derived.Test.YtniljoojoafiaaaGreatDoorAwr
import Derived.Test.YtniljoojoafiaaaGreatDoorXax
import Derived.Test.YtniljoojoafiaaaGreatDoorVStr2
import Derived.Test.YtniljoojoafiaaaGreatDoorVRsm
import Derived.Test.YtniljoojoafiaaaGreatDoorXay
namespace Go.Proofs.YtniljoojoafiaaaGreatDoor
open Go.RowKit Go.Shelf
attribute [local go_sem] Oper.semAt_some
def oT (t : V.Tr) : V.Tr := V.structT (fun _ => aB) (fun _ => t) (V.osF (fun _ => aB) 0) 1
theorem oT_m (t : V.Tr) : (oT t).m = 1 := by rfl
def RfV (t : V.Tr) (u : Value) (W : World) : Prop := ∃ A, u = t.val A ∧ V.Lies W.heap.size W t A
theorem RfV.later {t : V.Tr} : ∀ u W W', RfV t u W → Below W.heap.size W W' → RfV t u W' := fun _ _ _ ⟨A, h1, h2⟩ hb => ⟨A, h1, V.LiesS.up (fun _ hk => Nat.lt_of_lt_of_le hk hb.size) (h2.later hb)⟩
def LI (n : Int) : Array Value := #[.int .i64 2, .bool false, .int .i64 n, .string ⟨#[]⟩, .slice none 0 0, .slice none 0 0]
theorem int_li (n : Int) (w : World) : Calls Tryz.prog 22 #[.int .i64 n] w fun r w' => r = .returned (.agg (LI n)) ∧ Below w.heap.size w w' := V.vint n w
theorem cells_mid {w : World} {z o : Nat} {cs : Array Value} {t : TypeId} (h : w.heap[z]? = some (.cells cs t (0, 0))) (vs : Array Value) (hn : o + vs.size ≤ cs.size) (h1 : vs.all (·.oneCell') = true) :
    (storeCells ⟨z, o, none⟩ vs.toList 0).run Tryz.prog w = .ok () (w.setCells z o vs.toList) := by
  have := run_storeCells_cells (P := Tryz.prog) z o vs.toList 0 w (fun j hj => by
    rw [cell_of_row w z _ cs t _ h]
    simp at hj
    simp
    omega) (fun j hj => frozen_of_row w z _ cs t h) (fun v hv => (Array.all_eq_true_iff_forall_mem.1 h1) v (by simpa using hv))
  simp only [Nat.add_zero] at this
  exact this
set_option maxRecDepth 100000 in
set_option maxHeartbeats 8000000 in
theorem own_walk (t0 : V.Tr) (X : V.Ad) (n : Int) (w : World) (hg : V.Gm w) (hL : V.Lies w.heap.size w t0 X) : Calls Tryz.prog 4 #[t0.val X, .int .i64 n] w fun e w' => e = .returned (.bool true) ∧ Below w.heap.size w w' := by
  show Calls Tryz.prog 4 #[.agg #[.int .i64 t0.k, .bool t0.b, .int .i64 t0.n, .string t0.s, .slice X.pa t0.m X.pc, .slice X.na t0.q X.nc], .int .i64 n] w _
  obtain ⟨w1, hw1⟩ : ∃ w1, w.alloc (.cells #[.int .i64 t0.k, .bool t0.b, .int .i64 t0.n, .string t0.s, .slice X.pa t0.m X.pc, .slice X.na t0.q X.nc] 34) = w1 := ⟨_, rfl⟩
  have hb1 : Below w.heap.size w w1 := by rw [← hw1]; exact (Below.refl _ w).alloc (Nat.le_refl _) _
  have r1 : w1.heap[w.heap.size]? = some (.cells #[.int .i64 t0.k, .bool t0.b, .int .i64 t0.n, .string t0.s, .slice X.pa t0.m X.pc, .slice X.na t0.q X.nc] 34 (0, 0)) := by rw [← hw1]; exact heap_alloc_new _ _
  obtain ⟨w2, hw2⟩ : ∃ w2, w1.alloc (.cells #[.string aB] 9) = w2 := ⟨_, rfl⟩
  have hb2 : Below w1.heap.size w1 w2 := by rw [← hw2]; exact (Below.refl _ w1).alloc (Nat.le_refl _) _
  have a2 : w2.heap[w1.heap.size]? = some (.cells #[.string aB] 9 (0, 0)) := by rw [← hw2]; exact heap_alloc_new _ _
  have hB2 : Below w.heap.size w w2 := hb1.trans (hb2.mono hb1.size)
  have r2 := (hb2.block _ (lt_of_row r1)).trans r1
  have x0 := cell_of_row w2 _ 0 _ _ _ r2
  have x1 := cell_of_row w2 _ 1 _ _ _ r2
  have x2 := cell_of_row w2 _ 2 _ _ _ r2
  have x3 := cell_of_row w2 _ 3 _ _ _ r2
  have x4 := cell_of_row w2 _ 4 _ _ _ r2
  have x5 := cell_of_row w2 _ 5 _ _ _ r2
  have kc : Calls Tryz.prog 15 #[.agg #[.int .i64 t0.k, .bool t0.b, .int .i64 t0.n, .string t0.s, .slice X.pa t0.m X.pc, .slice X.na t0.q X.nc], .int .i64 2, .int .i64 3] w2 fun e w' => ∃ A, e = .returned ((V.cutT t0 2 3).val A) ∧ V.LiesS (fun k => k < w.heap.size ∨ (w2.heap.size ≤ k ∧ k < w'.heap.size)) w' (V.cutT t0 2 3) A ∧ Below w2.heap.size w2 w' := V.cut_all t0 w.heap.size w2 X 2 3 (hL.later hB2) hB2.size (by omega) (by omega)
  obtain ⟨tc, htc⟩ : ∃ tc, V.cutT t0 2 3 = tc := ⟨_, rfl⟩
  rw [htc] at kc
  have HX : Hid (w.alloc (.cells #[.int .i64 t0.k, .bool t0.b, .int .i64 t0.n, .string t0.s, .slice X.pa t0.m X.pc, .slice X.na t0.q X.nc] 34) = w1 ∧ w1.alloc (.cells #[.string ⟨#[97]⟩] 9) = w2) := ⟨hw1, hw2⟩
  have sz2 := hB2.size
  clear hw1 hw2
  refine (callsIn_wide (n := 0)).1 ?_
  refine callsIn_of_wp Tryz.func4 rfl trivial ?_ rfl
  simp only [Tryz.ntmps4, List.size_toArray, List.length_cons, List.length_nil, Nat.reduceAdd, Nat.reduceSub, Array.replicate_succ, Array.replicate_zero, List.push_toArray, List.append_toArray, List.nil_append, List.cons_append]
  gi_wp2_with (first | rw [HX.out.1] | rw [HX.out.2] | fail)
  refine ⟨trivial, rfl, (callsIn_wide.2 kc).mono ?_⟩
  rintro e w3 ⟨A1, rfl, L1, hb3⟩
  unfold V.Tr.val
  clear x0 x1 x2 x3 x4 x5 kc
  obtain ⟨w4, hw4⟩ : ∃ w4, w3.alloc (.cells #[.int .i64 tc.k, .bool tc.b, .int .i64 tc.n, .string tc.s, .slice A1.pa tc.m A1.pc, .slice A1.na tc.q A1.nc] 34) = w4 := ⟨_, rfl⟩
  have hb4 : Below w3.heap.size w3 w4 := by rw [← hw4]; exact (Below.refl _ w3).alloc (Nat.le_refl _) _
  have p4 : w4.heap[w3.heap.size]? = some (.cells #[.int .i64 tc.k, .bool tc.b, .int .i64 tc.n, .string tc.s, .slice A1.pa tc.m A1.pc, .slice A1.na tc.q A1.nc] 34 (0, 0)) := by rw [← hw4]; exact heap_alloc_new _ _
  have sz3 := hb3.size
  have sz4 := hb4.size
  have a4 := (hb4.block _ (by have := lt_of_row a2; omega)).trans ((hb3.block _ (lt_of_row a2)).trans a2)
  have L4 := lies_later L1 hb4
  have hslq : V.slimq tc := by rw [← htc]; exact V.slimq_cut t0 2 3 (by omega)
  have kst : Calls Tryz.prog 14 #[.slice (some ⟨w1.heap.size, 0, none⟩) 1 1, .slice (some ⟨w3.heap.size, 0, none⟩) 1 1] w4 fun e w' => ∃ A', e = .returned ((oT tc).val A') ∧ V.SepT (fun k => w4.heap.size ≤ k ∧ k < w'.heap.size) w' (oT tc) A' ∧ Below w4.heap.size w4 w' := by
    refine V.struct_sep (B := w4.heap.size) (g := fun _ => aB) (f := fun _ => tc) (A := fun _ => A1) 0 (by omega) (by decide) (Nat.le_refl _) (lt_of_row a4) (fun i hi => ?_) (fun i _ => by decide) (lt_of_row p4) (fun i hi => ?_) (fun i hi => ?_) (fun i hi => hslq)
    · obtain rfl : i = 0 := by omega
      exact cell_of_row w4 _ 0 _ _ _ a4
    · obtain rfl : i = 0 := by omega
      exact ⟨cell_of_row w4 _ 0 _ _ _ p4, cell_of_row w4 _ 1 _ _ _ p4, cell_of_row w4 _ 2 _ _ _ p4, cell_of_row w4 _ 3 _ _ _ p4, cell_of_row w4 _ 4 _ _ _ p4, cell_of_row w4 _ 5 _ _ _ p4⟩
    · exact V.LiesS.up (fun k hk => by omega) L4
  have HX4 : Hid (w3.alloc (.cells #[.int .i64 tc.k, .bool tc.b, .int .i64 tc.n, .string tc.s, .slice A1.pa tc.m A1.pc, .slice A1.na tc.q A1.nc] 34) = w4) := hw4
  clear hw4
  gi_wp2_with fail
  rw [HX4.out]
  refine ⟨trivial, rfl, (callsIn_wide.2 kst).mono ?_⟩
  rintro e w5 ⟨A2, rfl, hS5, hb5⟩
  unfold V.Tr.val
  obtain ⟨T, hT⟩ : ∃ T, oT tc = T := ⟨_, rfl⟩
  have hmI : (T.m : Int) = 1 := by rw [← hT]; rfl
  have HM : Hid (T.m = 1) := by rw [← hT]; rfl
  have hTs : V.small T := by
    rw [← hT, ← htc]
    exact ⟨by decide, fun _ _ => V.small_cut t0 2 3⟩
  have hTl : V.slim T := by
    rw [← hT, ← htc]
    exact ⟨by show 1 ≤ 33; omega, fun _ _ => V.slim_cut t0 2 3 (by omega)⟩
  rw [hT] at hS5 ⊢
  have L5 : V.LiesS (fun k => w4.heap.size ≤ k ∧ k < w5.heap.size) w5 T A2 := hS5.two.one (fun k hk => hk) (fun k hk => hk.1)
  obtain ⟨w6, hw6⟩ : ∃ w6, w5.alloc (.cells #[.int .i64 T.k, .bool T.b, .int .i64 T.n, .string T.s, .slice A2.pa T.m A2.pc, .slice A2.na T.q A2.nc] 34) = w6 := ⟨_, rfl⟩
  have hb6 : Below w5.heap.size w5 w6 := by rw [← hw6]; exact (Below.refl _ w5).alloc (Nat.le_refl _) _
  have s6 : w6.heap.size = w5.heap.size + 1 := by rw [← hw6]; simp
  have v6 : w6.heap[w5.heap.size]? = some (.cells #[.int .i64 T.k, .bool T.b, .int .i64 T.n, .string T.s, .slice A2.pa T.m A2.pc, .slice A2.na T.q A2.nc] 34 (0, 0)) := by rw [← hw6]; exact heap_alloc_new _ _
  have kch : Calls Tryz.prog 16 #[.agg #[.int .i64 T.k, .bool T.b, .int .i64 T.n, .string T.s, .slice A2.pa T.m A2.pc, .slice A2.na T.q A2.nc]] w6 fun e w' => e = .returned (.int .i64 (V.checkT T)) ∧ Below w6.heap.size w6 w' := V.check_any (B := w6.heap.size) (V.LiesS.up (fun k hk => by omega) (lies_later L5 hb6)) (Nat.le_refl _) hTs
  have HX6 : Hid (w5.alloc (.cells #[.int .i64 T.k, .bool T.b, .int .i64 T.n, .string T.s, .slice A2.pa T.m A2.pc, .slice A2.na T.q A2.nc] 34) = w6) := hw6
  have sz5 := hb5.size
  have hB3 : Below w.heap.size w w3 := hB2.trans (hb3.mono hB2.size)
  have hB5 : Below w.heap.size w w5 := (hB3.trans (hb4.mono hB3.size)).trans (hb5.mono (by omega))
  have hB6 : Below w.heap.size w w6 := hB5.trans (hb6.mono hB5.size)
  have sW := hB3.size
  clear hw6 kst hL L4 L1 r1 r2 a2 a4 p4 hb1 hb2 HX HX4 hslq
  gi_wp2_with fail
  rw [HX6.out]
  refine ⟨trivial, rfl, (callsIn_wide.2 kch).mono ?_⟩
  rintro e w7 ⟨rfl, hb7⟩
  have hB7 : Below w.heap.size w w7 := hB6.trans (hb7.mono hB6.size)
  by_cases hck : V.checkT T = 0
  case neg =>
    have hne : ((V.checkT T) != 0) = true := by simpa using hck
    have ka := awake_any w7 (hg.later hB7 hg.pos)
    gi_wp2_with fail
    refine ⟨trivial, rfl, (callsIn_wide.2 ka).mono ?_⟩
    rintro e w8 ⟨rfl, hb8⟩
    gi_wp2
    go_ret
    exact ⟨rfl, hB7.trans (hb8.mono hB7.size)⟩
  case pos =>
    rw [hck]
    have v7 := (hb7.block _ (lt_of_row v6)).trans v6
    have c4 := cell_of_row w7 _ 4 _ _ _ v7
    have kn := new_table w7
    obtain ⟨z, o, cs5, hz, rz5⟩ := hS5.row (by rw [HM.out]; omega)
    have lz := lt_of_row rz5
    have hzo : o + 6 ≤ cs5.size ∧ w4.heap.size ≤ z := by
      obtain ⟨b1, o1, e1, hb1, A0, h6, _⟩ := V.LiesS.part' L5 (by rw [HM.out]; omega)
      rw [hz] at e1
      injection e1 with e1
      injection e1 with e1 e2
      subst e1 e2
      have h5 := h6.c5
      rw [cell_of_row w5 z (o + 5) cs5 34 _ rz5] at h5
      exact ⟨(Array.getElem?_eq_some_iff.1 h5).1, hb1.1⟩
    have hb57 : Below w5.heap.size w5 w7 := hb6.trans (hb7.mono (by omega))
    have HMI : Hid ((T.m : Int) = 1) := hmI
    have HZ : Hid (A2.pa = some ⟨z, o, none⟩) := hz
    clear hz
    gi_wp2_with fail
    clear hmI
    refine ⟨trivial, rfl, (callsIn_wide.2 kn).mono ?_⟩
    rintro e w8 ⟨rfl, r8, hb8⟩
    have hb58 : Below w5.heap.size w5 w8 := hb57.trans (hb8.mono hb57.size)
    have v8 := (hb8.block _ (lt_of_row v7)).trans v7
    have d0 := cell_of_row w8 _ 0 _ _ _ v8
    have d1 := cell_of_row w8 _ 1 _ _ _ v8
    have d2 := cell_of_row w8 _ 2 _ _ _ v8
    have d3 := cell_of_row w8 _ 3 _ _ _ v8
    have d4 := cell_of_row w8 _ 4 _ _ _ v8
    have d5 := cell_of_row w8 _ 5 _ _ _ v8
    have lt8 := lt_of_row r8
    have sz58 := hb58.size
    have sz57 := hb57.size
    have sz7 := hb7.size
    have hslT := check_slim T 1 (V.check_zero hck).1
    have kput : Calls Tryz.prog 13 #[.pointer (some ⟨w7.heap.size, 0, none⟩), .agg #[.int .u64 1, .int .u64 0, .int .i64 T.k, .bool T.b, .int .i64 T.n, .string T.s, .slice A2.pa T.m A2.pc, .slice A2.na T.q A2.nc]] w8 _ := put_new w7.heap.size 1 0 T A2 r8 ⟨by omega, by omega⟩ (V.LiesS.up (fun k hk => ⟨by omega, by omega⟩) (lies_later L5 hb58)) hslT
    clear kn c4
    gi_wp2_with fail
    refine ⟨trivial, rfl, (callsIn_wide.2 kput).mono ?_⟩
    rintro e w9 ⟨rfl, m, A3, r9, m9, hm9, L9, o9⟩
    have sz9 := o9.size
    have v9 := (o9.block _ (lt_of_row v8) (by have := lt_of_row v6; omega)).trans v8
    have g0 := cell_of_row w9 _ 0 _ _ _ v9
    have g1 := cell_of_row w9 _ 1 _ _ _ v9
    have g2 := cell_of_row w9 _ 2 _ _ _ v9
    have g3 := cell_of_row w9 _ 3 _ _ _ v9
    have g4 := cell_of_row w9 _ 4 _ _ _ v9
    have g5 := cell_of_row w9 _ 5 _ _ _ v9
    have h59 : ∀ k, k < w5.heap.size → w9.heap[k]? = w5.heap[k]? := fun k hk => (o9.block k (by omega) (by omega)).trans (hb58.block k hk)
    have kref : Calls Tryz.prog 18 #[.agg #[.int .i64 T.k, .bool T.b, .int .i64 T.n, .string T.s, .slice A2.pa T.m A2.pc, .slice A2.na T.q A2.nc]] w9 fun e w' => ∃ A, e = .returned (T.val A) ∧ V.LiesS (fun k => ((w4.heap.size ≤ k ∧ k < w5.heap.size) ∧ some k ≠ A2.pa.map (·.block)) ∨ (w9.heap.size ≤ k ∧ k < w'.heap.size)) w' T A ∧ Below w9.heap.size w9 w' :=
      V.refD_all T hTl _ _ w9 A2 (hS5.two.kept (fun k hk => h59 k hk.2) (fun k hk => h59 k hk.1.2)) (fun k hk => by omega) (fun k hk => by have := hk.1; omega)
    clear kput d0 d1 d2 d3 d4 d5
    gi_wp2_with fail
    refine ⟨trivial, rfl, (callsIn_wide.2 kref).mono ?_⟩
    rintro e w10 ⟨A4, rfl, L10, hb10⟩
    unfold V.Tr.val
    obtain ⟨w11, hw11⟩ : ∃ w11, w10.alloc (.cells #[.int .i64 T.k, .bool T.b, .int .i64 T.n, .string T.s, .slice A4.pa T.m A4.pc, .slice A4.na T.q A4.nc] 52) = w11 := ⟨_, rfl⟩
    have hb11 : Below w10.heap.size w10 w11 := by rw [← hw11]; exact (Below.refl _ w10).alloc (Nat.le_refl _) _
    have b11 : w11.heap[w10.heap.size]? = some (.cells #[.int .i64 T.k, .bool T.b, .int .i64 T.n, .string T.s, .slice A4.pa T.m A4.pc, .slice A4.na T.q A4.nc] 52 (0, 0)) := by rw [← hw11]; exact heap_alloc_new _ _
    have HX11 : Hid (w10.alloc (.cells #[.int .i64 T.k, .bool T.b, .int .i64 T.n, .string T.s, .slice A4.pa T.m A4.pc, .slice A4.na T.q A4.nc] 52) = w11) := hw11
    have hb911 : Below w9.heap.size w9 w11 := hb10.trans (hb11.mono hb10.size)
    have v11 := (hb911.block _ (lt_of_row v9)).trans v9
    have sz10 := hb10.size
    have sz11 := hb11.size
    clear hw11 kref g0 g1 g2 g3 g4 g5
    gi_wp2
    rw [HX11.out]
    refine B.any_tailIn (by kernel_rfl) 4 (by exact Nat.le_of_ble_eq_true rfl) (fun i => i + 32) (B.mixR [] [.pointer (some ⟨w5.heap.size, 4, none⟩), .slice A2.pa T.m A2.pc, .int .i64 n, .agg (LI n)]) (by kernel_rfl) (by kernel_rfl) (by kernel_rfl) (by kernel_rfl) (B.mixR_later _ _ (B.stab_nil)) ?step ?post
    case step =>
      intro iq hiq a W2 hrest hb hk
      have hp5 : a.eval (.tmp 5) = .pointer (some ⟨w5.heap.size, 0, none⟩) := (hrest 5 (by intro iq2 hiq2; (repeat' split) <;> omega)).trans rfl
      have fp5 := B.ev hp5
      have hx5 : W2.heap[w5.heap.size]? = some (.cells #[.int .i64 T.k, .bool T.b, .int .i64 T.n, .string T.s, .slice A2.pa T.m A2.pc, .slice A2.na T.q A2.nc] 34 (0, 0)) := (hb.block _ (lt_of_row v11)).trans v11
      have hp1 : a.eval (.tmp 1) = .int .i64 n := (hrest 1 (by intro iq2 hiq2; (repeat' split) <;> omega)).trans rfl
      have fp1 := B.ev hp1
      clear hrest
      obtain rfl | rfl | rfl | rfl : iq = 0 ∨ iq = 1 ∨ iq = 2 ∨ iq = 3 := by omega
      · clear hiq
        clear hk
        refine ⟨_, rfl, rfl, Or.inl ⟨B.wanted_none rfl, B.wpIn_value (v := .pointer (some ⟨w5.heap.size, 4, none⟩)) (w' := W2) ?_ ⟨_, rfl, Below.refl _ _, rfl⟩⟩⟩
        go_simp
      · clear hiq
        have e0 : a.eval (.tmp 32) = .pointer (some ⟨w5.heap.size, 4, none⟩) := hk 0 (B.mem_of (by kernel_rfl))
        have f0 := B.ev e0
        have hc : W2.cell? ⟨w5.heap.size, 4, none⟩ = some (.slice A2.pa T.m A2.pc) := cell_of_row W2 _ 4 _ _ _ hx5
        clear hk
        refine ⟨_, rfl, rfl, Or.inl ⟨B.wanted_none rfl, B.wpIn_value (v := .slice A2.pa T.m A2.pc) (w' := W2) ?_ ⟨_, rfl, Below.refl _ _, rfl⟩⟩⟩
        go_simp
      · clear hiq
        clear hk
        refine ⟨_, rfl, rfl, Or.inl ⟨B.wanted_none rfl, B.wpIn_value (v := .int .i64 n) (w' := W2) ?_ ⟨_, rfl, Below.refl _ _, rfl⟩⟩⟩
        go_simp
      · clear hiq
        have e2 : a.eval (.tmp 34) = .int .i64 n := hk 2 (B.mem_of (by kernel_rfl))
        have f2 := B.ev e2
        clear hk
        refine ⟨_, rfl, rfl, Or.inl ⟨B.wanted_none rfl, B.wpIn_enter (f := 22) (args := #[.int .i64 n]) ?_ ((int_li n W2).mono ?_)⟩⟩
        · go_simp
        · rintro e wq ⟨rfl, hbq⟩
          exact ⟨_, rfl, _, rfl, hbq, rfl⟩
    case post =>
      intro V2 W2 hbW2 hV2
      have e1 : V2 1 = .slice A2.pa T.m A2.pc := hV2 1 (by omega)
      have e3 : V2 3 = .agg (LI n) := hV2 3 (by omega)
      clear hV2
      simp only [B.putAll, Nat.reduceAdd]
      rw [e1, e3, HZ.out]
      simp only [Act.put, List.setIfInBounds_toArray, List.set_cons_zero, List.set_cons_succ]
      change wpListIn _ _ _ _ _ [_, _] _ _
      have hb9W : Below w9.heap.size w9 W2 := hb911.trans (hbW2.mono hb911.size)
      have rzW := (hb9W.block _ (by omega)).trans ((h59 z lz).trans rz5)
      have hst := cells_mid rzW (LI n) hzo.1 (by simp [LI, Value.oneCell'])
      have hmI := HMI.out
      obtain ⟨W3, hW3⟩ : ∃ W3, W2.setCells z o (LI n).toList = W3 := ⟨_, rfl⟩
      rw [hW3] at hst
      have k3 : ∀ k, k ≠ z → W3.heap[k]? = W2.heap[k]? := fun k hk => by rw [← hW3]; exact heap_setCells_else z k hk _ _ _
      have s3 : W3.heap.size = W2.heap.size := by rw [← hW3]; exact size_setCells z _ _ _
      have hB7W : Below w.heap.size w w7 := hB7
      have hB8 : Below w.heap.size w w8 := hB7.trans (hb8.mono hB7.size)
      have hB9 : Below w.heap.size w w9 := hB8.trans (o9.below (by have := hB7.size; omega) hB8.size)
      have hBW2 : Below w.heap.size w W2 := hB9.trans (hb9W.mono hB9.size)
      have hBW3 : Below w.heap.size w W3 := by
        rw [← hW3]
        exact below_setCells' (by omega) _ _ _ hBW2
      have szW := hb9W.size
      have hkW : ∀ k, k < w9.heap.size → k ≠ z → W3.heap[k]? = w9.heap[k]? := fun k hk hz => (k3 k hz).trans (hb9W.block k hk)
      have r3 := (hkW _ (lt_of_row r9) (by omega)).trans r9
      have m3 : M1 31 W3 m (.int .u64 1) (.agg (rwA 1 0 T A3)) := m9.same (hkW _ m9.lt (by omega))
      have L3 : V.LiesS (fun k => (w8.heap.size ≤ k ∧ k ≠ m) ∧ k < w9.heap.size) W3 T A3 := V.LiesS.kept (fun k hk => hkW k hk.2 (by omega)) (lies_lt L9)
      have hb10W : Below w10.heap.size w10 W2 := (hb11.trans (hbW2.mono (by omega)))
      have LR : V.LiesS (fun k => (((w4.heap.size ≤ k ∧ k < w5.heap.size) ∧ some k ≠ A2.pa.map (·.block)) ∨ (w9.heap.size ≤ k ∧ k < w10.heap.size))) W3 T A4 := by
        refine lies_keep L10 (fun k hk hlt => (k3 k ?_).trans (hb10W.block k hlt))
        rcases hk with hk | hk
        · intro e
          rw [HZ.out, e] at hk
          exact hk.2 rfl
        · omega
      have lb := lt_of_row b11
      have b3 := ((k3 _ (by omega)).trans (hbW2.block _ lb)).trans b11
      have kg := tget_one w7.heap.size m 1 0 T A3 _ _ ⟨by omega, by omega⟩ r3 m3 (V.LiesS.up (fun k hk => by omega) L3) hslT
      have hszW := hbW2.size
      clear hW3
      gi_wp2_with fail
      refine ⟨trivial, rfl, (callsIn_wide.2 kg).mono ?_⟩
      rintro e w13 ⟨A5, rfl, L13, hb13, hrow5⟩
      obtain ⟨w14, hw14⟩ : ∃ w14, w13.alloc (.cells #[.int .u64 1, .int .u64 0, .int .i64 T.k, .bool T.b, .int .i64 T.n, .string T.s, .slice A5.pa T.m A5.pc, .slice A5.na T.q A5.nc] 45) = w14 := ⟨_, rfl⟩
      have hb14 : Below w13.heap.size w13 w14 := by rw [← hw14]; exact (Below.refl _ w13).alloc (Nat.le_refl _) _
      have y14 : w14.heap[w13.heap.size]? = some (.cells #[.int .u64 1, .int .u64 0, .int .i64 T.k, .bool T.b, .int .i64 T.n, .string T.s, .slice A5.pa T.m A5.pc, .slice A5.na T.q A5.nc] 45 (0, 0)) := by rw [← hw14]; exact heap_alloc_new _ _
      have HX14 : Hid (w13.alloc (.cells #[.int .u64 1, .int .u64 0, .int .i64 T.k, .bool T.b, .int .i64 T.n, .string T.s, .slice A5.pa T.m A5.pc, .slice A5.na T.q A5.nc] 45) = w14) := hw14
      have hb314 : Below W3.heap.size W3 w14 := hb13.trans (hb14.mono hb13.size)
      have b14 := (hb314.block _ (lt_of_row b3)).trans b3
      have sz13 := hb13.size
      have sz14 := hb14.size
      have L14 := lies_later L13 hb14
      have LR14 := lies_later LR hb314
      have hB14 : Below w.heap.size w w14 := hBW3.trans (hb314.mono hBW3.size)
      have hG : ∀ W, Below w14.heap.size w14 W → V.Gm W := fun W hb => hg.later (hB14.trans (hb.mono hB14.size)) hg.pos
      have hsd : V.soundT T 1 = 0 := (V.check_zero hck).1
      have krf : ∀ W, Below w14.heap.size w14 W → Calls Tryz.prog 18 #[.agg #[.int .i64 T.k, .bool T.b, .int .i64 T.n, .string T.s, .slice A5.pa T.m A5.pc, .slice A5.na T.q A5.nc]] W fun e w' => (∃ u, e = .returned u ∧ RfV T u w') ∧ Below W.heap.size W w' := fun W hb => by
        have hsz := hb.size
        refine (V.ref_all T hTl W.heap.size W A5 (V.LiesS.up (fun k hk => hk.2) (lies_lt (lies_later L14 hb))) (Nat.le_refl _)).mono ?_
        rintro e w' ⟨A, rfl, hA, hb'⟩
        exact ⟨⟨_, rfl, A, rfl, hA.up (fun k hk => by have := hb'.size; omega)⟩, hb'⟩
      have ksm : ∀ W A9, Below w14.heap.size w14 W → V.Lies W.heap.size W T A9 → Calls Tryz.prog 23 #[.agg #[.int .i64 T.k, .bool T.b, .int .i64 T.n, .string T.s, .slice A9.pa T.m A9.pc, .slice A9.na T.q A9.nc], .agg #[.int .i64 T.k, .bool T.b, .int .i64 T.n, .string T.s, .slice A4.pa T.m A4.pc, .slice A4.na T.q A4.nc]] W fun e w' => e = .returned (.bool true) ∧ Below W.heap.size W w' := fun W A9 hb h9 => by
        have := V.rsame_any hsd hsd h9 (V.LiesS.up (fun k hk => hk.2) (lies_lt (lies_later LR14 hb))) (Nat.le_refl _)
        rw [V.cmpT_self] at this
        exact this
      clear hw14 hst kg hmI
      gi_wp2
      rw [HX14.out]
      refine B.any_tailIn (by kernel_rfl) 21 (by exact Nat.le_of_ble_eq_true rfl) (fun i => i + 42) (B.mixR [(9, RfV T)] [.bool true, .bool false, .bool false, .bool true, .bool false, .bool false, .bool false, .pointer (some ⟨w13.heap.size, 2, none⟩), .agg #[.int .i64 T.k, .bool T.b, .int .i64 T.n, .string T.s, .slice A5.pa T.m A5.pc, .slice A5.na T.q A5.nc], undef, .agg #[.int .i64 T.k, .bool T.b, .int .i64 T.n, .string T.s, .slice A4.pa T.m A4.pc, .slice A4.na T.q A4.nc], .bool true, .bool false, .bool false, .bool false, .pointer (some ⟨w13.heap.size, 2, none⟩), .pointer (some ⟨w13.heap.size, 6, none⟩), .slice A5.pa T.m A5.pc, .int .i64 (T.m : Int), .bool false, .bool false]) (by kernel_rfl) (by kernel_rfl) (by kernel_rfl) (by kernel_rfl) (B.mixR_later _ _ ((by intro y hy; simp only [List.mem_cons, List.not_mem_nil, or_false] at hy; subst hy; exact RfV.later))) ?step ?post
      case step =>
        intro iq hiq a W2 hrest hb hk
        have hp8 : a.eval (.tmp 8) = .pointer (some ⟨w13.heap.size, 0, none⟩) := (hrest 8 (by intro iq2 hiq2; (repeat' split) <;> omega)).trans rfl
        have fp8 := B.ev hp8
        have hx8 : W2.heap[w13.heap.size]? = some (.cells #[.int .u64 1, .int .u64 0, .int .i64 T.k, .bool T.b, .int .i64 T.n, .string T.s, .slice A5.pa T.m A5.pc, .slice A5.na T.q A5.nc] 45 (0, 0)) := (hb.block _ (lt_of_row y14)).trans y14
        have hp7 : a.eval (.tmp 7) = .pointer (some ⟨w10.heap.size, 0, none⟩) := (hrest 7 (by intro iq2 hiq2; (repeat' split) <;> omega)).trans rfl
        have fp7 := B.ev hp7
        have hx7 : W2.heap[w10.heap.size]? = some (.cells #[.int .i64 T.k, .bool T.b, .int .i64 T.n, .string T.s, .slice A4.pa T.m A4.pc, .slice A4.na T.q A4.nc] 52 (0, 0)) := (hb.block _ (lt_of_row b14)).trans b14
        have hp9 : a.eval (.tmp 9) = .bool true := (hrest 9 (by intro iq2 hiq2; (repeat' split) <;> omega)).trans rfl
        have fp9 := B.ev hp9
        clear hrest
        obtain rfl | rfl | rfl | rfl | rfl | rfl | rfl | rfl | rfl | rfl | rfl | rfl | rfl | rfl | rfl | rfl | rfl | rfl | rfl | rfl | rfl : iq = 0 ∨ iq = 1 ∨ iq = 2 ∨ iq = 3 ∨ iq = 4 ∨ iq = 5 ∨ iq = 6 ∨ iq = 7 ∨ iq = 8 ∨ iq = 9 ∨ iq = 10 ∨ iq = 11 ∨ iq = 12 ∨ iq = 13 ∨ iq = 14 ∨ iq = 15 ∨ iq = 16 ∨ iq = 17 ∨ iq = 18 ∨ iq = 19 ∨ iq = 20 := by omega
        · clear hiq
          clear hk
          refine ⟨_, rfl, rfl, Or.inl ⟨B.wanted_none rfl, B.wpIn_enter (f := 21) (args := #[]) ?_ ((awake_any W2 (hG W2 hb)).mono ?_)⟩⟩
          · go_simp
          · rintro e wq ⟨rfl, hbq⟩
            exact ⟨_, rfl, _, rfl, hbq, rfl⟩
        · clear hiq
          have e0 : a.eval (.tmp 42) = .bool true := hk 0 (B.mem_of (by kernel_rfl))
          have f0 := B.ev e0
          clear hk
          refine ⟨_, rfl, rfl, Or.inl ⟨B.wanted_none rfl, B.wpIn_value (v := .bool false) (w' := W2) ?_ ⟨_, rfl, Below.refl _ _, rfl⟩⟩⟩
          go_simp
        · clear hiq
          have e1 : a.eval (.tmp 43) = .bool false := hk 1 (B.mem_of (by kernel_rfl))
          have f1 := B.ev e1
          clear hk
          refine ⟨_, rfl, rfl, Or.inl ⟨B.wanted_none rfl, B.wpIn_value (v := .bool false) (w' := W2) ?_ ⟨_, rfl, Below.refl _ _, rfl⟩⟩⟩
          go_simp
        · clear hiq
          have e2 : a.eval (.tmp 44) = .bool false := hk 2 (B.mem_of (by kernel_rfl))
          have f2 := B.ev e2
          clear hk
          refine ⟨_, rfl, rfl, Or.inl ⟨B.wanted_of (k := 2) (b := false) rfl rfl e2, B.wpIn_value (v := .bool true) (w' := W2) ?_ ⟨_, rfl, Below.refl _ _, rfl⟩⟩⟩
          go_simp
        · clear hiq
          have e2 : a.eval (.tmp 44) = .bool false := hk 2 (B.mem_of (by kernel_rfl))
          have f2 := B.ev e2
          have e3 : a.eval (.tmp 45) = .bool true := hk 3 (B.mem_of (by kernel_rfl))
          have f3 := B.ev e3
          clear hk
          refine ⟨_, rfl, rfl, Or.inl ⟨B.wanted_of (k := 2) (b := false) rfl rfl e2, B.wpIn_value (v := .bool false) (w' := W2) ?_ ⟨_, rfl, Below.refl _ _, rfl⟩⟩⟩
          go_simp
        · clear hiq
          have e2 : a.eval (.tmp 44) = .bool false := hk 2 (B.mem_of (by kernel_rfl))
          have f2 := B.ev e2
          have e4 : a.eval (.tmp 46) = .bool false := hk 4 (B.mem_of (by kernel_rfl))
          have f4 := B.ev e4
          clear hk
          refine ⟨_, rfl, rfl, Or.inl ⟨B.wanted_none rfl, B.wpIn_value (v := .bool false) (w' := W2) ?_ ⟨_, rfl, Below.refl _ _, rfl⟩⟩⟩
          go_simp
        · clear hiq
          have e5 : a.eval (.tmp 47) = .bool false := hk 5 (B.mem_of (by kernel_rfl))
          have f5 := B.ev e5
          clear hk
          refine ⟨_, rfl, rfl, Or.inl ⟨B.wanted_none rfl, B.wpIn_value (v := .bool false) (w' := W2) ?_ ⟨_, rfl, Below.refl _ _, rfl⟩⟩⟩
          go_simp
        · clear hiq
          have e6 : a.eval (.tmp 48) = .bool false := hk 6 (B.mem_of (by kernel_rfl))
          have f6 := B.ev e6
          clear hk
          refine ⟨_, rfl, rfl, Or.inl ⟨B.wanted_of (k := 6) (b := false) rfl rfl e6, B.wpIn_value (v := .pointer (some ⟨w13.heap.size, 2, none⟩)) (w' := W2) ?_ ⟨_, rfl, Below.refl _ _, rfl⟩⟩⟩
          go_simp
        · clear hiq
          have e6 : a.eval (.tmp 48) = .bool false := hk 6 (B.mem_of (by kernel_rfl))
          have f6 := B.ev e6
          have e7 : a.eval (.tmp 49) = .pointer (some ⟨w13.heap.size, 2, none⟩) := hk 7 (B.mem_of (by kernel_rfl))
          have f7 := B.ev e7
          have u2 := cell_of_row W2 _ 2 _ _ _ hx8
          have u3 := cell_of_row W2 _ 3 _ _ _ hx8
          have u4 := cell_of_row W2 _ 4 _ _ _ hx8
          have u5 := cell_of_row W2 _ 5 _ _ _ hx8
          have u6 := cell_of_row W2 _ 6 _ _ _ hx8
          have u7 := cell_of_row W2 _ 7 _ _ _ hx8
          clear hk
          refine ⟨_, rfl, rfl, Or.inl ⟨B.wanted_of (k := 6) (b := false) rfl rfl e6, B.wpIn_value (v := .agg #[.int .i64 T.k, .bool T.b, .int .i64 T.n, .string T.s, .slice A5.pa T.m A5.pc, .slice A5.na T.q A5.nc]) (w' := W2) ?_ ⟨_, rfl, Below.refl _ _, rfl⟩⟩⟩
          go_simp
        · clear hiq
          have e6 : a.eval (.tmp 48) = .bool false := hk 6 (B.mem_of (by kernel_rfl))
          have f6 := B.ev e6
          have e8 : a.eval (.tmp 50) = .agg #[.int .i64 T.k, .bool T.b, .int .i64 T.n, .string T.s, .slice A5.pa T.m A5.pc, .slice A5.na T.q A5.nc] := hk 8 (B.mem_of (by kernel_rfl))
          have f8 := B.ev e8
          clear hk
          refine ⟨_, rfl, rfl, Or.inl ⟨B.wanted_of (k := 6) (b := false) rfl rfl e6, B.wpIn_enter (f := 18) (args := #[.agg #[.int .i64 T.k, .bool T.b, .int .i64 T.n, .string T.s, .slice A5.pa T.m A5.pc, .slice A5.na T.q A5.nc]]) ?_ ((krf W2 hb).mono ?_)⟩⟩
          · go_simp
          · rintro e wq ⟨⟨u, rfl, hu⟩, hbq⟩
            exact ⟨_, rfl, _, rfl, hbq, hu⟩
        · clear hiq
          have e6 : a.eval (.tmp 48) = .bool false := hk 6 (B.mem_of (by kernel_rfl))
          have f6 := B.ev e6
          have hc0 := cell_of_row W2 _ 0 _ _ _ hx7
          have hc1 := cell_of_row W2 _ 1 _ _ _ hx7
          have hc2 := cell_of_row W2 _ 2 _ _ _ hx7
          have hc3 := cell_of_row W2 _ 3 _ _ _ hx7
          have hc4 := cell_of_row W2 _ 4 _ _ _ hx7
          have hc5 := cell_of_row W2 _ 5 _ _ _ hx7
          clear hk
          refine ⟨_, rfl, rfl, Or.inl ⟨B.wanted_of (k := 6) (b := false) rfl rfl e6, B.wpIn_value (v := .agg #[.int .i64 T.k, .bool T.b, .int .i64 T.n, .string T.s, .slice A4.pa T.m A4.pc, .slice A4.na T.q A4.nc]) (w' := W2) ?_ ⟨_, rfl, Below.refl _ _, rfl⟩⟩⟩
          go_simp
        · clear hiq
          have e6 : a.eval (.tmp 48) = .bool false := hk 6 (B.mem_of (by kernel_rfl))
          have f6 := B.ev e6
          have e10 : a.eval (.tmp 52) = .agg #[.int .i64 T.k, .bool T.b, .int .i64 T.n, .string T.s, .slice A4.pa T.m A4.pc, .slice A4.na T.q A4.nc] := hk 10 (B.mem_of (by kernel_rfl))
          have f10 := B.ev e10
          obtain ⟨A9, e9, h9⟩ := show RfV T (a.eval (.tmp 51)) W2 from hk 9 (B.mem_of (by kernel_rfl))
          have f9 := B.ev e9
          unfold V.Tr.val at f9
          clear hk
          refine ⟨_, rfl, rfl, Or.inl ⟨B.wanted_of (k := 6) (b := false) rfl rfl e6, B.wpIn_enter (f := 23) (args := #[.agg #[.int .i64 T.k, .bool T.b, .int .i64 T.n, .string T.s, .slice A9.pa T.m A9.pc, .slice A9.na T.q A9.nc], .agg #[.int .i64 T.k, .bool T.b, .int .i64 T.n, .string T.s, .slice A4.pa T.m A4.pc, .slice A4.na T.q A4.nc]]) ?_ ((ksm W2 A9 hb h9).mono ?_)⟩⟩
          · go_simp
          · rintro e wq ⟨rfl, hbq⟩
            exact ⟨_, rfl, _, rfl, hbq, rfl⟩
        · clear hiq
          have e6 : a.eval (.tmp 48) = .bool false := hk 6 (B.mem_of (by kernel_rfl))
          have f6 := B.ev e6
          have e11 : a.eval (.tmp 53) = .bool true := hk 11 (B.mem_of (by kernel_rfl))
          have f11 := B.ev e11
          clear hk
          refine ⟨_, rfl, rfl, Or.inl ⟨B.wanted_of (k := 6) (b := false) rfl rfl e6, B.wpIn_value (v := .bool false) (w' := W2) ?_ ⟨_, rfl, Below.refl _ _, rfl⟩⟩⟩
          go_simp
        · clear hiq
          have e6 : a.eval (.tmp 48) = .bool false := hk 6 (B.mem_of (by kernel_rfl))
          have f6 := B.ev e6
          have e12 : a.eval (.tmp 54) = .bool false := hk 12 (B.mem_of (by kernel_rfl))
          have f12 := B.ev e12
          clear hk
          refine ⟨_, rfl, rfl, Or.inl ⟨B.wanted_none rfl, B.wpIn_value (v := .bool false) (w' := W2) ?_ ⟨_, rfl, Below.refl _ _, rfl⟩⟩⟩
          go_simp
        · clear hiq
          have e13 : a.eval (.tmp 55) = .bool false := hk 13 (B.mem_of (by kernel_rfl))
          have f13 := B.ev e13
          clear hk
          refine ⟨_, rfl, rfl, Or.inl ⟨B.wanted_none rfl, B.wpIn_value (v := .bool false) (w' := W2) ?_ ⟨_, rfl, Below.refl _ _, rfl⟩⟩⟩
          go_simp
        · clear hiq
          have e14 : a.eval (.tmp 56) = .bool false := hk 14 (B.mem_of (by kernel_rfl))
          have f14 := B.ev e14
          clear hk
          refine ⟨_, rfl, rfl, Or.inl ⟨B.wanted_of (k := 14) (b := false) rfl rfl e14, B.wpIn_value (v := .pointer (some ⟨w13.heap.size, 2, none⟩)) (w' := W2) ?_ ⟨_, rfl, Below.refl _ _, rfl⟩⟩⟩
          go_simp
        · clear hiq
          have e14 : a.eval (.tmp 56) = .bool false := hk 14 (B.mem_of (by kernel_rfl))
          have f14 := B.ev e14
          have e15 : a.eval (.tmp 57) = .pointer (some ⟨w13.heap.size, 2, none⟩) := hk 15 (B.mem_of (by kernel_rfl))
          have f15 := B.ev e15
          clear hk
          refine ⟨_, rfl, rfl, Or.inl ⟨B.wanted_of (k := 14) (b := false) rfl rfl e14, B.wpIn_value (v := .pointer (some ⟨w13.heap.size, 6, none⟩)) (w' := W2) ?_ ⟨_, rfl, Below.refl _ _, rfl⟩⟩⟩
          go_simp
        · clear hiq
          have e14 : a.eval (.tmp 56) = .bool false := hk 14 (B.mem_of (by kernel_rfl))
          have f14 := B.ev e14
          have e16 : a.eval (.tmp 58) = .pointer (some ⟨w13.heap.size, 6, none⟩) := hk 16 (B.mem_of (by kernel_rfl))
          have f16 := B.ev e16
          have hc : W2.cell? ⟨w13.heap.size, 6, none⟩ = some (.slice A5.pa T.m A5.pc) := cell_of_row W2 _ 6 _ _ _ hx8
          clear hk
          refine ⟨_, rfl, rfl, Or.inl ⟨B.wanted_of (k := 14) (b := false) rfl rfl e14, B.wpIn_value (v := .slice A5.pa T.m A5.pc) (w' := W2) ?_ ⟨_, rfl, Below.refl _ _, rfl⟩⟩⟩
          go_simp
        · clear hiq
          have e14 : a.eval (.tmp 56) = .bool false := hk 14 (B.mem_of (by kernel_rfl))
          have f14 := B.ev e14
          have e17 : a.eval (.tmp 59) = .slice A5.pa T.m A5.pc := hk 17 (B.mem_of (by kernel_rfl))
          have f17 := B.ev e17
          clear hk
          refine ⟨_, rfl, rfl, Or.inl ⟨B.wanted_of (k := 14) (b := false) rfl rfl e14, B.wpIn_value (v := .int .i64 (T.m : Int)) (w' := W2) ?_ ⟨_, rfl, Below.refl _ _, rfl⟩⟩⟩
          go_simp
        · clear hiq
          have e14 : a.eval (.tmp 56) = .bool false := hk 14 (B.mem_of (by kernel_rfl))
          have f14 := B.ev e14
          have e18 : a.eval (.tmp 60) = .int .i64 (T.m : Int) := hk 18 (B.mem_of (by kernel_rfl))
          have f18 := B.ev e18
          have hmI := HMI.out
          clear hk
          refine ⟨_, rfl, rfl, Or.inl ⟨B.wanted_of (k := 14) (b := false) rfl rfl e14, B.wpIn_value (v := .bool false) (w' := W2) ?_ ⟨_, rfl, Below.refl _ _, rfl⟩⟩⟩
          go_simp
        · clear hiq
          have e14 : a.eval (.tmp 56) = .bool false := hk 14 (B.mem_of (by kernel_rfl))
          have f14 := B.ev e14
          have e19 : a.eval (.tmp 61) = .bool false := hk 19 (B.mem_of (by kernel_rfl))
          have f19 := B.ev e19
          clear hk
          refine ⟨_, rfl, rfl, Or.inl ⟨B.wanted_none rfl, B.wpIn_value (v := .bool false) (w' := W2) ?_ ⟨_, rfl, Below.refl _ _, rfl⟩⟩⟩
          go_simp
      case post =>
        intro V4 W4 hbW4 hV4
        have e20 : V4 20 = .bool false := hV4 20 (by omega)
        clear hV4
        simp only [B.putAll, Nat.reduceAdd]
        rw [e20]
        simp only [Act.put, List.setIfInBounds_toArray, List.set_cons_zero, List.set_cons_succ]
        change wpListIn _ _ _ _ _ [] _ _
        gi_wp2
        have y15 := (hbW4.block _ (lt_of_row y14)).trans y14
        obtain ⟨z5, o5, cs6, hz5, rz6⟩ := hrow5 (by rw [HM.out]; omega)
        have lz5 := lt_of_row rz6
        have hzo5 : o5 + 6 ≤ cs6.size ∧ W3.heap.size < z5 := by
          obtain ⟨b1, o1, e1, hb1, A0, h6, _⟩ := V.LiesS.part' L13 (by rw [HM.out]; omega)
          rw [hz5] at e1
          injection e1 with e1
          injection e1 with e1 e2
          subst e1 e2
          have h5 := h6.c5
          rw [cell_of_row w13 z5 (o5 + 5) cs6 34 _ rz6] at h5
          exact ⟨(Array.getElem?_eq_some_iff.1 h5).1, hb1⟩
        have HZ5 : Hid (A5.pa = some ⟨z5, o5, none⟩) := hz5
        have szW4 := hbW4.size
        clear hz5 krf ksm
        refine B.any_tailIn (by kernel_rfl) 5 (by exact Nat.le_of_ble_eq_true rfl) (fun i => i + 63) (B.mixR [] [.pointer (some ⟨w13.heap.size, 2, none⟩), .pointer (some ⟨w13.heap.size, 6, none⟩), .slice A5.pa T.m A5.pc, .int .i64 n, .agg (LI n)]) (by kernel_rfl) (by kernel_rfl) (by kernel_rfl) (by kernel_rfl) (B.mixR_later _ _ (B.stab_nil)) ?step ?post
        case step =>
          intro iq hiq a W5 hrest hb hk
          have hp8 : a.eval (.tmp 8) = .pointer (some ⟨w13.heap.size, 0, none⟩) := (hrest 8 (by intro iq2 hiq2; (repeat' split) <;> omega)).trans rfl
          have fp8 := B.ev hp8
          have hx8 : W5.heap[w13.heap.size]? = some (.cells #[.int .u64 1, .int .u64 0, .int .i64 T.k, .bool T.b, .int .i64 T.n, .string T.s, .slice A5.pa T.m A5.pc, .slice A5.na T.q A5.nc] 45 (0, 0)) := (hb.block _ (lt_of_row y15)).trans y15
          have hp1 : a.eval (.tmp 1) = .int .i64 n := (hrest 1 (by intro iq2 hiq2; (repeat' split) <;> omega)).trans rfl
          have fp1 := B.ev hp1
          clear hrest
          obtain rfl | rfl | rfl | rfl | rfl : iq = 0 ∨ iq = 1 ∨ iq = 2 ∨ iq = 3 ∨ iq = 4 := by omega
          · clear hiq
            clear hk
            refine ⟨_, rfl, rfl, Or.inl ⟨B.wanted_none rfl, B.wpIn_value (v := .pointer (some ⟨w13.heap.size, 2, none⟩)) (w' := W5) ?_ ⟨_, rfl, Below.refl _ _, rfl⟩⟩⟩
            go_simp
          · clear hiq
            have e0 : a.eval (.tmp 63) = .pointer (some ⟨w13.heap.size, 2, none⟩) := hk 0 (B.mem_of (by kernel_rfl))
            have f0 := B.ev e0
            clear hk
            refine ⟨_, rfl, rfl, Or.inl ⟨B.wanted_none rfl, B.wpIn_value (v := .pointer (some ⟨w13.heap.size, 6, none⟩)) (w' := W5) ?_ ⟨_, rfl, Below.refl _ _, rfl⟩⟩⟩
            go_simp
          · clear hiq
            have e1 : a.eval (.tmp 64) = .pointer (some ⟨w13.heap.size, 6, none⟩) := hk 1 (B.mem_of (by kernel_rfl))
            have f1 := B.ev e1
            have hc : W5.cell? ⟨w13.heap.size, 6, none⟩ = some (.slice A5.pa T.m A5.pc) := cell_of_row W5 _ 6 _ _ _ hx8
            clear hk
            refine ⟨_, rfl, rfl, Or.inl ⟨B.wanted_none rfl, B.wpIn_value (v := .slice A5.pa T.m A5.pc) (w' := W5) ?_ ⟨_, rfl, Below.refl _ _, rfl⟩⟩⟩
            go_simp
          · clear hiq
            clear hk
            refine ⟨_, rfl, rfl, Or.inl ⟨B.wanted_none rfl, B.wpIn_value (v := .int .i64 n) (w' := W5) ?_ ⟨_, rfl, Below.refl _ _, rfl⟩⟩⟩
            go_simp
          · clear hiq
            have e3 : a.eval (.tmp 66) = .int .i64 n := hk 3 (B.mem_of (by kernel_rfl))
            have f3 := B.ev e3
            clear hk
            refine ⟨_, rfl, rfl, Or.inl ⟨B.wanted_none rfl, B.wpIn_enter (f := 22) (args := #[.int .i64 n]) ?_ ((int_li n W5).mono ?_)⟩⟩
            · go_simp
            · rintro e wq ⟨rfl, hbq⟩
              exact ⟨_, rfl, _, rfl, hbq, rfl⟩
        case post =>
          intro V5 W5 hbW5 hV5
          have e2 : V5 2 = .slice A5.pa T.m A5.pc := hV5 2 (by omega)
          have e4 : V5 4 = .agg (LI n) := hV5 4 (by omega)
          clear hV5
          simp only [B.putAll, Nat.reduceAdd]
          rw [e2, e4, HZ5.out]
          simp only [Act.put, List.setIfInBounds_toArray, List.set_cons_zero, List.set_cons_succ]
          change wpListIn _ _ _ _ _ [_, _] _ _
          have hb13W : Below w13.heap.size w13 W5 := (hb14.trans (hbW4.mono sz14)).trans (hbW5.mono (by omega))
          have hst := cells_mid ((hb13W.block _ lz5).trans rz6) (LI n) hzo5.1 (by simp [LI, Value.oneCell'])
          have hmI := HMI.out
          obtain ⟨W6, hW6⟩ : ∃ W6, W5.setCells z5 o5 (LI n).toList = W6 := ⟨_, rfl⟩
          rw [hW6] at hst
          have szW5 := hb13W.size
          have hb35 : Below W3.heap.size W3 W5 := hb13.trans (hb13W.mono hb13.size)
          have hb36 : Below W3.heap.size W3 W6 := by
            rw [← hW6]
            exact below_setCells' (by omega) _ _ _ hb35
          have r6 := (hb36.block _ (lt_of_row r3)).trans r3
          have m6 := m3.later hb36
          have L6 := lies_later L3 hb36
          have LR6 := lies_later LR hb36
          have b6 := (hb36.block _ (lt_of_row b3)).trans b3
          have s6 := hb36.size
          have kg := tget_one w7.heap.size m 1 0 T A3 _ _ ⟨by omega, by omega⟩ r6 m6 (V.LiesS.up (fun k hk => by omega) L6) hslT
          clear hW6
          gi_wp2_with fail
          refine ⟨trivial, rfl, (callsIn_wide.2 kg).mono ?_⟩
          rintro e w17 ⟨A6, rfl, L17, hb17, _⟩
          obtain ⟨w18, hw18⟩ : ∃ w18, w17.alloc (.cells #[.int .u64 1, .int .u64 0, .int .i64 T.k, .bool T.b, .int .i64 T.n, .string T.s, .slice A6.pa T.m A6.pc, .slice A6.na T.q A6.nc] 45) = w18 := ⟨_, rfl⟩
          have hb18 : Below w17.heap.size w17 w18 := by rw [← hw18]; exact (Below.refl _ w17).alloc (Nat.le_refl _) _
          have y18 : w18.heap[w17.heap.size]? = some (.cells #[.int .u64 1, .int .u64 0, .int .i64 T.k, .bool T.b, .int .i64 T.n, .string T.s, .slice A6.pa T.m A6.pc, .slice A6.na T.q A6.nc] 45 (0, 0)) := by rw [← hw18]; exact heap_alloc_new _ _
          have HX18 : Hid (w17.alloc (.cells #[.int .u64 1, .int .u64 0, .int .i64 T.k, .bool T.b, .int .i64 T.n, .string T.s, .slice A6.pa T.m A6.pc, .slice A6.na T.q A6.nc] 45) = w18) := hw18
          have hb618 : Below W6.heap.size W6 w18 := hb17.trans (hb18.mono hb17.size)
          have b18 := (hb618.block _ (lt_of_row b6)).trans b6
          have L18 := lies_later L17 hb18
          have LR18 := lies_later LR6 hb618
          have hBW6 : Below w.heap.size w W6 := hBW3.trans (hb36.mono hBW3.size)
          have hB18 : Below w.heap.size w w18 := hBW6.trans (hb618.mono hBW6.size)
          have krf2 : ∀ W, Below w18.heap.size w18 W → Calls Tryz.prog 18 #[.agg #[.int .i64 T.k, .bool T.b, .int .i64 T.n, .string T.s, .slice A6.pa T.m A6.pc, .slice A6.na T.q A6.nc]] W fun e w' => (∃ u, e = .returned u ∧ RfV T u w') ∧ Below W.heap.size W w' := fun W hb => by
            have hsz := hb.size
            refine (V.ref_all T hTl W.heap.size W A6 (V.LiesS.up (fun k hk => hk.2) (lies_lt (lies_later L18 hb))) (Nat.le_refl _)).mono ?_
            rintro e w' ⟨A, rfl, hA, hb'⟩
            exact ⟨⟨_, rfl, A, rfl, hA.up (fun k hk => by have := hb'.size; omega)⟩, hb'⟩
          have ksm2 : ∀ W A9, Below w18.heap.size w18 W → V.Lies W.heap.size W T A9 → Calls Tryz.prog 23 #[.agg #[.int .i64 T.k, .bool T.b, .int .i64 T.n, .string T.s, .slice A9.pa T.m A9.pc, .slice A9.na T.q A9.nc], .agg #[.int .i64 T.k, .bool T.b, .int .i64 T.n, .string T.s, .slice A4.pa T.m A4.pc, .slice A4.na T.q A4.nc]] W fun e w' => e = .returned (.bool true) ∧ Below W.heap.size W w' := fun W A9 hb h9 => by
            have := V.rsame_any hsd hsd h9 (V.LiesS.up (fun k hk => hk.2) (lies_lt (lies_later LR18 hb))) (Nat.le_refl _)
            rw [V.cmpT_self] at this
            exact this
          clear hw18 hst kg hmI
          gi_wp2
          rw [HX18.out]
          refine B.any_tailIn (by kernel_rfl) 5 (by exact Nat.le_of_ble_eq_true rfl) (fun i => i + 74) (B.mixR [(2, RfV T)] [.pointer (some ⟨w17.heap.size, 2, none⟩), .agg #[.int .i64 T.k, .bool T.b, .int .i64 T.n, .string T.s, .slice A6.pa T.m A6.pc, .slice A6.na T.q A6.nc], undef, .agg #[.int .i64 T.k, .bool T.b, .int .i64 T.n, .string T.s, .slice A4.pa T.m A4.pc, .slice A4.na T.q A4.nc], .bool true]) (by kernel_rfl) (by kernel_rfl) (by kernel_rfl) (by kernel_rfl) (B.mixR_later _ _ ((by intro y hy; simp only [List.mem_cons, List.not_mem_nil, or_false] at hy; subst hy; exact RfV.later))) ?step ?post
          case step =>
            intro iq hiq a W7 hrest hb hk
            have hp10 : a.eval (.tmp 10) = .pointer (some ⟨w17.heap.size, 0, none⟩) := (hrest 10 (by intro iq2 hiq2; (repeat' split) <;> omega)).trans rfl
            have fp10 := B.ev hp10
            have hx10 : W7.heap[w17.heap.size]? = some (.cells #[.int .u64 1, .int .u64 0, .int .i64 T.k, .bool T.b, .int .i64 T.n, .string T.s, .slice A6.pa T.m A6.pc, .slice A6.na T.q A6.nc] 45 (0, 0)) := (hb.block _ (lt_of_row y18)).trans y18
            have hp7 : a.eval (.tmp 7) = .pointer (some ⟨w10.heap.size, 0, none⟩) := (hrest 7 (by intro iq2 hiq2; (repeat' split) <;> omega)).trans rfl
            have fp7 := B.ev hp7
            have hx7 : W7.heap[w10.heap.size]? = some (.cells #[.int .i64 T.k, .bool T.b, .int .i64 T.n, .string T.s, .slice A4.pa T.m A4.pc, .slice A4.na T.q A4.nc] 52 (0, 0)) := (hb.block _ (lt_of_row b18)).trans b18
            clear hrest
            obtain rfl | rfl | rfl | rfl | rfl : iq = 0 ∨ iq = 1 ∨ iq = 2 ∨ iq = 3 ∨ iq = 4 := by omega
            · clear hiq
              clear hk
              refine ⟨_, rfl, rfl, Or.inl ⟨B.wanted_none rfl, B.wpIn_value (v := .pointer (some ⟨w17.heap.size, 2, none⟩)) (w' := W7) ?_ ⟨_, rfl, Below.refl _ _, rfl⟩⟩⟩
              go_simp
            · clear hiq
              have e0 : a.eval (.tmp 74) = .pointer (some ⟨w17.heap.size, 2, none⟩) := hk 0 (B.mem_of (by kernel_rfl))
              have f0 := B.ev e0
              have u2 := cell_of_row W7 _ 2 _ _ _ hx10
              have u3 := cell_of_row W7 _ 3 _ _ _ hx10
              have u4 := cell_of_row W7 _ 4 _ _ _ hx10
              have u5 := cell_of_row W7 _ 5 _ _ _ hx10
              have u6 := cell_of_row W7 _ 6 _ _ _ hx10
              have u7 := cell_of_row W7 _ 7 _ _ _ hx10
              clear hk
              refine ⟨_, rfl, rfl, Or.inl ⟨B.wanted_none rfl, B.wpIn_value (v := .agg #[.int .i64 T.k, .bool T.b, .int .i64 T.n, .string T.s, .slice A6.pa T.m A6.pc, .slice A6.na T.q A6.nc]) (w' := W7) ?_ ⟨_, rfl, Below.refl _ _, rfl⟩⟩⟩
              go_simp
            · clear hiq
              have e1 : a.eval (.tmp 75) = .agg #[.int .i64 T.k, .bool T.b, .int .i64 T.n, .string T.s, .slice A6.pa T.m A6.pc, .slice A6.na T.q A6.nc] := hk 1 (B.mem_of (by kernel_rfl))
              have f1 := B.ev e1
              clear hk
              refine ⟨_, rfl, rfl, Or.inl ⟨B.wanted_none rfl, B.wpIn_enter (f := 18) (args := #[.agg #[.int .i64 T.k, .bool T.b, .int .i64 T.n, .string T.s, .slice A6.pa T.m A6.pc, .slice A6.na T.q A6.nc]]) ?_ ((krf2 W7 hb).mono ?_)⟩⟩
              · go_simp
              · rintro e wq ⟨⟨u, rfl, hu⟩, hbq⟩
                exact ⟨_, rfl, _, rfl, hbq, hu⟩
            · clear hiq
              have hc0 := cell_of_row W7 _ 0 _ _ _ hx7
              have hc1 := cell_of_row W7 _ 1 _ _ _ hx7
              have hc2 := cell_of_row W7 _ 2 _ _ _ hx7
              have hc3 := cell_of_row W7 _ 3 _ _ _ hx7
              have hc4 := cell_of_row W7 _ 4 _ _ _ hx7
              have hc5 := cell_of_row W7 _ 5 _ _ _ hx7
              clear hk
              refine ⟨_, rfl, rfl, Or.inl ⟨B.wanted_none rfl, B.wpIn_value (v := .agg #[.int .i64 T.k, .bool T.b, .int .i64 T.n, .string T.s, .slice A4.pa T.m A4.pc, .slice A4.na T.q A4.nc]) (w' := W7) ?_ ⟨_, rfl, Below.refl _ _, rfl⟩⟩⟩
              go_simp
            · clear hiq
              have e3 : a.eval (.tmp 77) = .agg #[.int .i64 T.k, .bool T.b, .int .i64 T.n, .string T.s, .slice A4.pa T.m A4.pc, .slice A4.na T.q A4.nc] := hk 3 (B.mem_of (by kernel_rfl))
              have f3 := B.ev e3
              obtain ⟨A9, e9, h9⟩ := show RfV T (a.eval (.tmp 76)) W7 from hk 2 (B.mem_of (by kernel_rfl))
              have f9 := B.ev e9
              unfold V.Tr.val at f9
              clear hk
              refine ⟨_, rfl, rfl, Or.inl ⟨B.wanted_none rfl, B.wpIn_enter (f := 23) (args := #[.agg #[.int .i64 T.k, .bool T.b, .int .i64 T.n, .string T.s, .slice A9.pa T.m A9.pc, .slice A9.na T.q A9.nc], .agg #[.int .i64 T.k, .bool T.b, .int .i64 T.n, .string T.s, .slice A4.pa T.m A4.pc, .slice A4.na T.q A4.nc]]) ?_ ((ksm2 W7 A9 hb h9).mono ?_)⟩⟩
              · go_simp
              · rintro e wq ⟨rfl, hbq⟩
                exact ⟨_, rfl, _, rfl, hbq, rfl⟩
          case post =>
            intro V7 W7 hbW7 hV7
            have e4 : V7 4 = .bool true := hV7 4 (by omega)
            clear hV7
            simp only [B.putAll, Nat.reduceAdd]
            rw [e4]
            simp only [Act.put, List.setIfInBounds_toArray, List.set_cons_zero, List.set_cons_succ]
            change wpListIn _ _ _ _ _ [_] _ _
            gi_wp2
            go_ret
            exact ⟨rfl, hB18.trans (hbW7.mono hB18.size)⟩
theorem own_walkN {t0 : V.Tr} {X : V.Ad} (n : Int) (_ : -9223372036854775808 ≤ n) (w : World) (hg : V.Gm w) (hL : V.Lies w.heap.size w t0 X) : Calls Tryz.prog 4 #[t0.val X, .int .i64 n] w fun e w' => e = .returned (.bool true) ∧ Below w.heap.size w w' := own_walk t0 X n w hg hL
end Go.Proofs.YtniljoojoafiaaaGreatDoor
