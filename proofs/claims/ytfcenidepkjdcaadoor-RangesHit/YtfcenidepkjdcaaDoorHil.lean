/- RangesHit, called. -/
import Derived.Test.YtfcenidepkjdcaaDoorAwk
import Derived.Test.YtfcenidepkjdcaaDoorCud
import Derived.Test.YtfcenidepkjdcaaDoorXca
namespace Go.Proofs.YtfcenidepkjdcaaDoor
open Go.RowKit Go.Shelf
attribute [local go_sem] Oper.semAt_some
set_option maxRecDepth 100000 in
set_option maxHeartbeats 8000000 in
theorem hit_good (w : World) (tb fl lo hi tt : ByteArray) (sh : Bool) (t : V.Tr) (x : V.Ad) (u : V.Tr) (y : V.Ad) (was is : Bool) (T U : V.Tr)
    (kaw : ∀ W, Below w.heap.size w W → Calls Tryd.prog 8 #[] W fun e w' => e = .returned (.bool true) ∧ Below W.heap.size W w')
    (kcut : ∀ W, Below w.heap.size w W → Calls Tryd.prog 7 #[.agg #[.string tt, .bool sh, .int .i64 t.k, .bool t.b, .int .i64 t.n, .string t.s, .slice x.pa t.m x.pc, .slice x.na t.q x.nc, .int .i64 u.k, .bool u.b, .int .i64 u.n, .string u.s, .slice y.pa u.m y.pc, .slice y.na u.q y.nc, .bool was, .bool is]] W fun e w' => ∃ A C, e = .returned (.tuple #[.agg #[.string tt, .bool sh, .int .i64 T.k, .bool T.b, .int .i64 T.n, .string T.s, .slice A.pa T.m A.pc, .slice A.na T.q A.nc, .int .i64 U.k, .bool U.b, .int .i64 U.n, .string U.s, .slice C.pa U.m C.pc, .slice C.na U.q C.nc, .bool was, .bool is], .bool true]) ∧ V.Lies w'.heap.size w' T A ∧ V.Lies w'.heap.size w' U C ∧ Below W.heap.size W w')
    (H : Bool) (kh : ∀ W A C, Below w.heap.size w W → V.Lies W.heap.size W T A → V.Lies W.heap.size W U C → Calls Tryd.prog 9 #[.agg #[.string tb, .string fl, .string lo, .string hi], .agg #[.string tt, .bool sh, .int .i64 T.k, .bool T.b, .int .i64 T.n, .string T.s, .slice A.pa T.m A.pc, .slice A.na T.q A.nc, .int .i64 U.k, .bool U.b, .int .i64 U.n, .string U.s, .slice C.pa U.m C.pc, .slice C.na U.q C.nc, .bool was, .bool is]] W fun e w' => e = .returned (.bool H) ∧ Below W.heap.size W w')
    (kl : ∀ W A C, Below w.heap.size w W → V.Lies W.heap.size W T A → V.Lies W.heap.size W U C → Calls Tryd.prog 10 #[.agg #[.string tb, .string fl, .string lo, .string hi], .agg #[.string tt, .bool sh, .int .i64 T.k, .bool T.b, .int .i64 T.n, .string T.s, .slice A.pa T.m A.pc, .slice A.na T.q A.nc, .int .i64 U.k, .bool U.b, .int .i64 U.n, .string U.s, .slice C.pa U.m C.pc, .slice C.na U.q C.nc, .bool was, .bool is]] W fun e w' => e = .returned (.bool H) ∧ Below W.heap.size W w')
    : Calls Tryd.prog 3 #[.agg #[.string tb, .string fl, .string lo, .string hi], .agg #[.string tt, .bool sh, .int .i64 t.k, .bool t.b, .int .i64 t.n, .string t.s, .slice x.pa t.m x.pc, .slice x.na t.q x.nc, .int .i64 u.k, .bool u.b, .int .i64 u.n, .string u.s, .slice y.pa u.m y.pc, .slice y.na u.q y.nc, .bool was, .bool is]] w fun e w' => e = .returned (.bool true) ∧ Below w.heap.size w w' := by
  obtain ⟨w1, hw1⟩ : ∃ w1, (w.alloc (.cells #[.string tb, .string fl, .string lo, .string hi] 25)).alloc (.cells #[.string tt, .bool sh, .int .i64 t.k, .bool t.b, .int .i64 t.n, .string t.s, .slice x.pa t.m x.pc, .slice x.na t.q x.nc, .int .i64 u.k, .bool u.b, .int .i64 u.n, .string u.s, .slice y.pa u.m y.pc, .slice y.na u.q y.nc, .bool was, .bool is] 31) = w1 := ⟨_, rfl⟩
  have hb1 : Below w.heap.size w w1 := by rw [← hw1]; exact ((Below.refl _ w).alloc (Nat.le_refl _) _).alloc (by simp) _
  have r1 : w1.heap[w.heap.size]? = some (.cells #[.string tb, .string fl, .string lo, .string hi] 25 (0, 0)) := by rw [← hw1]; exact (Below.heap_alloc _ _ _ (by simp)).trans (heap_alloc_new _ _)
  have HW : Hid ((w.alloc (.cells #[.string tb, .string fl, .string lo, .string hi] 25)).alloc (.cells #[.string tt, .bool sh, .int .i64 t.k, .bool t.b, .int .i64 t.n, .string t.s, .slice x.pa t.m x.pc, .slice x.na t.q x.nc, .int .i64 u.k, .bool u.b, .int .i64 u.n, .string u.s, .slice y.pa u.m y.pc, .slice y.na u.q y.nc, .bool was, .bool is] 31) = w1) := hw1
  clear hw1
  go_enter Tryd.func3, Tryd.ntmps3
  go_wp2_with fail
  rw [HW.out]
  refine (kcut w1 hb1).mono ?_
  rintro e w2 ⟨A, C, rfl, lA, lC, hb2⟩
  obtain ⟨w3, hw3⟩ : ∃ w3, w2.alloc (.cells #[.string tt, .bool sh, .int .i64 T.k, .bool T.b, .int .i64 T.n, .string T.s, .slice A.pa T.m A.pc, .slice A.na T.q A.nc, .int .i64 U.k, .bool U.b, .int .i64 U.n, .string U.s, .slice C.pa U.m C.pc, .slice C.na U.q C.nc, .bool was, .bool is] 31) = w3 := ⟨_, rfl⟩
  have hb23 : Below w2.heap.size w2 w3 := by rw [← hw3]; exact (Below.refl _ w2).alloc (Nat.le_refl _) _
  have rx : w3.heap[w2.heap.size]? = some (.cells #[.string tt, .bool sh, .int .i64 T.k, .bool T.b, .int .i64 T.n, .string T.s, .slice A.pa T.m A.pc, .slice A.na T.q A.nc, .int .i64 U.k, .bool U.b, .int .i64 U.n, .string U.s, .slice C.pa U.m C.pc, .slice C.na U.q C.nc, .bool was, .bool is] 31 (0, 0)) := by rw [← hw3]; exact heap_alloc_new _ _
  have hb13 : Below w1.heap.size w1 w3 := hb2.trans (hb23.mono hb2.size)
  have rd : w3.heap[w.heap.size]? = some (.cells #[.string tb, .string fl, .string lo, .string hi] 25 (0, 0)) := (hb13.block _ (lt_of_row r1)).trans r1
  have hbw3 : Below w.heap.size w w3 := hb1.trans (hb13.mono hb1.size)
  have mA := lies_more lA hb23
  have mC := lies_more lC hb23
  have HX : Hid (w2.alloc (.cells #[.string tt, .bool sh, .int .i64 T.k, .bool T.b, .int .i64 T.n, .string T.s, .slice A.pa T.m A.pc, .slice A.na T.q A.nc, .int .i64 U.k, .bool U.b, .int .i64 U.n, .string U.s, .slice C.pa U.m C.pc, .slice C.na U.q C.nc, .bool was, .bool is] 31) = w3) := hw3
  clear hw3 hb2 lA lC r1 hb1 hb13 HW kcut hb23
  go_wp2_with fail
  rw [HX.out]
  obtain ⟨zx, hzx⟩ : ∃ z, w2.heap.size = z := ⟨_, rfl⟩
  rw [hzx] at rx ⊢
  clear hzx HX
  refine (wpIn_wide (n := 0)).1 ?_
  refine B.any_tailIn (m := 0) (by kernel_rfl) 14 (by exact Nat.le_of_ble_eq_true rfl) (fun i => i + 12) (B.mixR [] [.bool true, .bool true, .bool true, .bool false, .bool false, .agg #[.string tb, .string fl, .string lo, .string hi], .agg #[.string tt, .bool sh, .int .i64 T.k, .bool T.b, .int .i64 T.n, .string T.s, .slice A.pa T.m A.pc, .slice A.na T.q A.nc, .int .i64 U.k, .bool U.b, .int .i64 U.n, .string U.s, .slice C.pa U.m C.pc, .slice C.na U.q C.nc, .bool was, .bool is], .bool H, .agg #[.string tb, .string fl, .string lo, .string hi], .agg #[.string tt, .bool sh, .int .i64 T.k, .bool T.b, .int .i64 T.n, .string T.s, .slice A.pa T.m A.pc, .slice A.na T.q A.nc, .int .i64 U.k, .bool U.b, .int .i64 U.n, .string U.s, .slice C.pa U.m C.pc, .slice C.na U.q C.nc, .bool was, .bool is], .bool H, .bool true, .bool true, .bool true]) (by kernel_rfl) (by kernel_rfl) (by kernel_rfl) (by kernel_rfl) (B.mixR_later _ _ (B.stab_nil)) ?step ?post
  case step =>
    intro iq hiq a W hrest hb hk
    have hp2 : a.eval (.tmp 2) = .pointer (some ⟨w.heap.size, 0, none⟩) := (hrest 2 (by intro iq2 hiq2; (repeat' split) <;> omega)).trans rfl
    have fp2 := B.ev hp2
    have hx2 : W.heap[w.heap.size]? = some (.cells #[.string tb, .string fl, .string lo, .string hi] 25 (0, 0)) := (hb.block _ (lt_of_row rd)).trans rd
    have hp5 : a.eval (.tmp 5) = .pointer (some ⟨zx, 0, none⟩) := (hrest 5 (by intro iq2 hiq2; (repeat' split) <;> omega)).trans rfl
    have fp5 := B.ev hp5
    have hx5 : W.heap[zx]? = some (.cells #[.string tt, .bool sh, .int .i64 T.k, .bool T.b, .int .i64 T.n, .string T.s, .slice A.pa T.m A.pc, .slice A.na T.q A.nc, .int .i64 U.k, .bool U.b, .int .i64 U.n, .string U.s, .slice C.pa U.m C.pc, .slice C.na U.q C.nc, .bool was, .bool is] 31 (0, 0)) := (hb.block _ (lt_of_row rx)).trans rx
    have hp6 : a.eval (.tmp 6) = .bool true := (hrest 6 (by intro iq2 hiq2; (repeat' split) <;> omega)).trans rfl
    have fp6 := B.ev hp6
    clear hrest
    obtain rfl | rfl | rfl | rfl | rfl | rfl | rfl | rfl | rfl | rfl | rfl | rfl | rfl | rfl : iq = 0 ∨ iq = 1 ∨ iq = 2 ∨ iq = 3 ∨ iq = 4 ∨ iq = 5 ∨ iq = 6 ∨ iq = 7 ∨ iq = 8 ∨ iq = 9 ∨ iq = 10 ∨ iq = 11 ∨ iq = 12 ∨ iq = 13 := by omega
    · clear hiq
      clear hk
      refine ⟨_, rfl, rfl, Or.inl ⟨B.wanted_none rfl, B.wpIn_enter (f := 8) (args := #[]) ?_ ((kaw W (hbw3.trans (hb.mono hbw3.size))).mono ?_)⟩⟩
      · go_simp
      · rintro e w2 ⟨rfl, hb2⟩
        exact ⟨_, rfl, _, rfl, hb2, rfl⟩
    · clear hiq
      have e0 : a.eval (.tmp 12) = .bool true := hk 0 (B.mem_of (by kernel_rfl))
      have f0 := B.ev e0
      clear hk
      refine ⟨_, rfl, rfl, Or.inl ⟨B.wanted_none rfl, B.wpIn_value (v := .bool true) (w' := W) ?_ ⟨_, rfl, Below.refl _ _, rfl⟩⟩⟩
      go_simp
    · clear hiq
      have e1 : a.eval (.tmp 13) = .bool true := hk 1 (B.mem_of (by kernel_rfl))
      have f1 := B.ev e1
      clear hk
      refine ⟨_, rfl, rfl, Or.inl ⟨B.wanted_of (k := 1) (b := true) rfl rfl e1, B.wpIn_value (v := .bool true) (w' := W) ?_ ⟨_, rfl, Below.refl _ _, rfl⟩⟩⟩
      go_simp
    · clear hiq
      have e1 : a.eval (.tmp 13) = .bool true := hk 1 (B.mem_of (by kernel_rfl))
      have f1 := B.ev e1
      have e2 : a.eval (.tmp 14) = .bool true := hk 2 (B.mem_of (by kernel_rfl))
      have f2 := B.ev e2
      clear hk
      refine ⟨_, rfl, rfl, Or.inl ⟨B.wanted_of (k := 1) (b := true) rfl rfl e1, B.wpIn_value (v := .bool false) (w' := W) ?_ ⟨_, rfl, Below.refl _ _, rfl⟩⟩⟩
      go_simp
    · clear hiq
      have e1 : a.eval (.tmp 13) = .bool true := hk 1 (B.mem_of (by kernel_rfl))
      have f1 := B.ev e1
      have e3 : a.eval (.tmp 15) = .bool false := hk 3 (B.mem_of (by kernel_rfl))
      have f3 := B.ev e3
      clear hk
      refine ⟨_, rfl, rfl, Or.inl ⟨B.wanted_of (k := 1) (b := true) rfl rfl e1, B.wpIn_value (v := .bool false) (w' := W) ?_ ⟨_, rfl, Below.refl _ _, rfl⟩⟩⟩
      go_simp
    · clear hiq
      have e4 : a.eval (.tmp 16) = .bool false := hk 4 (B.mem_of (by kernel_rfl))
      have f4 := B.ev e4
      have hc0 := cell_of_row W w.heap.size 0 _ _ _ hx2
      have hc1 := cell_of_row W w.heap.size 1 _ _ _ hx2
      have hc2 := cell_of_row W w.heap.size 2 _ _ _ hx2
      have hc3 := cell_of_row W w.heap.size 3 _ _ _ hx2
      clear hk
      refine ⟨_, rfl, rfl, Or.inl ⟨B.wanted_of (k := 4) (b := false) rfl rfl e4, B.wpIn_value (v := .agg #[.string tb, .string fl, .string lo, .string hi]) (w' := W) ?_ ⟨_, rfl, Below.refl _ _, rfl⟩⟩⟩
      go_simp
    · clear hiq
      have e4 : a.eval (.tmp 16) = .bool false := hk 4 (B.mem_of (by kernel_rfl))
      have f4 := B.ev e4
      have hc0 := cell_of_row W zx 0 _ _ _ hx5
      have hc1 := cell_of_row W zx 1 _ _ _ hx5
      have hc2 := cell_of_row W zx 2 _ _ _ hx5
      have hc3 := cell_of_row W zx 3 _ _ _ hx5
      have hc4 := cell_of_row W zx 4 _ _ _ hx5
      have hc5 := cell_of_row W zx 5 _ _ _ hx5
      have hc6 := cell_of_row W zx 6 _ _ _ hx5
      have hc7 := cell_of_row W zx 7 _ _ _ hx5
      have hc8 := cell_of_row W zx 8 _ _ _ hx5
      have hc9 := cell_of_row W zx 9 _ _ _ hx5
      have hc10 := cell_of_row W zx 10 _ _ _ hx5
      have hc11 := cell_of_row W zx 11 _ _ _ hx5
      have hc12 := cell_of_row W zx 12 _ _ _ hx5
      have hc13 := cell_of_row W zx 13 _ _ _ hx5
      have hc14 := cell_of_row W zx 14 _ _ _ hx5
      have hc15 := cell_of_row W zx 15 _ _ _ hx5
      clear hk
      refine ⟨_, rfl, rfl, Or.inl ⟨B.wanted_of (k := 4) (b := false) rfl rfl e4, B.wpIn_value (v := .agg #[.string tt, .bool sh, .int .i64 T.k, .bool T.b, .int .i64 T.n, .string T.s, .slice A.pa T.m A.pc, .slice A.na T.q A.nc, .int .i64 U.k, .bool U.b, .int .i64 U.n, .string U.s, .slice C.pa U.m C.pc, .slice C.na U.q C.nc, .bool was, .bool is]) (w' := W) ?_ ⟨_, rfl, Below.refl _ _, rfl⟩⟩⟩
      go_simp
    · clear hiq
      have e4 : a.eval (.tmp 16) = .bool false := hk 4 (B.mem_of (by kernel_rfl))
      have f4 := B.ev e4
      have e5 : a.eval (.tmp 17) = .agg #[.string tb, .string fl, .string lo, .string hi] := hk 5 (B.mem_of (by kernel_rfl))
      have f5 := B.ev e5
      have e6 : a.eval (.tmp 18) = .agg #[.string tt, .bool sh, .int .i64 T.k, .bool T.b, .int .i64 T.n, .string T.s, .slice A.pa T.m A.pc, .slice A.na T.q A.nc, .int .i64 U.k, .bool U.b, .int .i64 U.n, .string U.s, .slice C.pa U.m C.pc, .slice C.na U.q C.nc, .bool was, .bool is] := hk 6 (B.mem_of (by kernel_rfl))
      have f6 := B.ev e6
      clear hk
      refine ⟨_, rfl, rfl, Or.inl ⟨B.wanted_of (k := 4) (b := false) rfl rfl e4, B.wpIn_enter (f := 9) (args := #[.agg #[.string tb, .string fl, .string lo, .string hi], .agg #[.string tt, .bool sh, .int .i64 T.k, .bool T.b, .int .i64 T.n, .string T.s, .slice A.pa T.m A.pc, .slice A.na T.q A.nc, .int .i64 U.k, .bool U.b, .int .i64 U.n, .string U.s, .slice C.pa U.m C.pc, .slice C.na U.q C.nc, .bool was, .bool is]]) ?_ ((kh W A C (hbw3.trans (hb.mono hbw3.size)) (lies_more mA hb) (lies_more mC hb)).mono ?_)⟩⟩
      · go_simp
      · rintro e w2 ⟨rfl, hb2⟩
        exact ⟨_, rfl, _, rfl, hb2, rfl⟩
    · clear hiq
      have e4 : a.eval (.tmp 16) = .bool false := hk 4 (B.mem_of (by kernel_rfl))
      have f4 := B.ev e4
      have hc0 := cell_of_row W w.heap.size 0 _ _ _ hx2
      have hc1 := cell_of_row W w.heap.size 1 _ _ _ hx2
      have hc2 := cell_of_row W w.heap.size 2 _ _ _ hx2
      have hc3 := cell_of_row W w.heap.size 3 _ _ _ hx2
      clear hk
      refine ⟨_, rfl, rfl, Or.inl ⟨B.wanted_of (k := 4) (b := false) rfl rfl e4, B.wpIn_value (v := .agg #[.string tb, .string fl, .string lo, .string hi]) (w' := W) ?_ ⟨_, rfl, Below.refl _ _, rfl⟩⟩⟩
      go_simp
    · clear hiq
      have e4 : a.eval (.tmp 16) = .bool false := hk 4 (B.mem_of (by kernel_rfl))
      have f4 := B.ev e4
      have hc0 := cell_of_row W zx 0 _ _ _ hx5
      have hc1 := cell_of_row W zx 1 _ _ _ hx5
      have hc2 := cell_of_row W zx 2 _ _ _ hx5
      have hc3 := cell_of_row W zx 3 _ _ _ hx5
      have hc4 := cell_of_row W zx 4 _ _ _ hx5
      have hc5 := cell_of_row W zx 5 _ _ _ hx5
      have hc6 := cell_of_row W zx 6 _ _ _ hx5
      have hc7 := cell_of_row W zx 7 _ _ _ hx5
      have hc8 := cell_of_row W zx 8 _ _ _ hx5
      have hc9 := cell_of_row W zx 9 _ _ _ hx5
      have hc10 := cell_of_row W zx 10 _ _ _ hx5
      have hc11 := cell_of_row W zx 11 _ _ _ hx5
      have hc12 := cell_of_row W zx 12 _ _ _ hx5
      have hc13 := cell_of_row W zx 13 _ _ _ hx5
      have hc14 := cell_of_row W zx 14 _ _ _ hx5
      have hc15 := cell_of_row W zx 15 _ _ _ hx5
      clear hk
      refine ⟨_, rfl, rfl, Or.inl ⟨B.wanted_of (k := 4) (b := false) rfl rfl e4, B.wpIn_value (v := .agg #[.string tt, .bool sh, .int .i64 T.k, .bool T.b, .int .i64 T.n, .string T.s, .slice A.pa T.m A.pc, .slice A.na T.q A.nc, .int .i64 U.k, .bool U.b, .int .i64 U.n, .string U.s, .slice C.pa U.m C.pc, .slice C.na U.q C.nc, .bool was, .bool is]) (w' := W) ?_ ⟨_, rfl, Below.refl _ _, rfl⟩⟩⟩
      go_simp
    · clear hiq
      have e4 : a.eval (.tmp 16) = .bool false := hk 4 (B.mem_of (by kernel_rfl))
      have f4 := B.ev e4
      have e8 : a.eval (.tmp 20) = .agg #[.string tb, .string fl, .string lo, .string hi] := hk 8 (B.mem_of (by kernel_rfl))
      have f8 := B.ev e8
      have e9 : a.eval (.tmp 21) = .agg #[.string tt, .bool sh, .int .i64 T.k, .bool T.b, .int .i64 T.n, .string T.s, .slice A.pa T.m A.pc, .slice A.na T.q A.nc, .int .i64 U.k, .bool U.b, .int .i64 U.n, .string U.s, .slice C.pa U.m C.pc, .slice C.na U.q C.nc, .bool was, .bool is] := hk 9 (B.mem_of (by kernel_rfl))
      have f9 := B.ev e9
      clear hk
      refine ⟨_, rfl, rfl, Or.inl ⟨B.wanted_of (k := 4) (b := false) rfl rfl e4, B.wpIn_enter (f := 10) (args := #[.agg #[.string tb, .string fl, .string lo, .string hi], .agg #[.string tt, .bool sh, .int .i64 T.k, .bool T.b, .int .i64 T.n, .string T.s, .slice A.pa T.m A.pc, .slice A.na T.q A.nc, .int .i64 U.k, .bool U.b, .int .i64 U.n, .string U.s, .slice C.pa U.m C.pc, .slice C.na U.q C.nc, .bool was, .bool is]]) ?_ ((kl W A C (hbw3.trans (hb.mono hbw3.size)) (lies_more mA hb) (lies_more mC hb)).mono ?_)⟩⟩
      · go_simp
      · rintro e w2 ⟨rfl, hb2⟩
        exact ⟨_, rfl, _, rfl, hb2, rfl⟩
    · clear hiq
      have e4 : a.eval (.tmp 16) = .bool false := hk 4 (B.mem_of (by kernel_rfl))
      have f4 := B.ev e4
      have e7 : a.eval (.tmp 19) = .bool H := hk 7 (B.mem_of (by kernel_rfl))
      have f7 := B.ev e7
      have e10 : a.eval (.tmp 22) = .bool H := hk 10 (B.mem_of (by kernel_rfl))
      have f10 := B.ev e10
      clear hk
      refine ⟨_, rfl, rfl, Or.inl ⟨B.wanted_of (k := 4) (b := false) rfl rfl e4, B.wpIn_value (v := .bool true) (w' := W) ?_ ⟨_, rfl, Below.refl _ _, rfl⟩⟩⟩
      go_simp
    · clear hiq
      have e1 : a.eval (.tmp 13) = .bool true := hk 1 (B.mem_of (by kernel_rfl))
      have f1 := B.ev e1
      have e4 : a.eval (.tmp 16) = .bool false := hk 4 (B.mem_of (by kernel_rfl))
      have f4 := B.ev e4
      have e11 : a.eval (.tmp 23) = .bool true := hk 11 (B.mem_of (by kernel_rfl))
      have f11 := B.ev e11
      clear hk
      refine ⟨_, rfl, rfl, Or.inl ⟨B.wanted_of (k := 1) (b := true) rfl rfl e1, B.wpIn_value (v := .bool true) (w' := W) ?_ ⟨_, rfl, Below.refl _ _, rfl⟩⟩⟩
      go_simp
    · clear hiq
      have e1 : a.eval (.tmp 13) = .bool true := hk 1 (B.mem_of (by kernel_rfl))
      have f1 := B.ev e1
      have e12 : a.eval (.tmp 24) = .bool true := hk 12 (B.mem_of (by kernel_rfl))
      have f12 := B.ev e12
      clear hk
      refine ⟨_, rfl, rfl, Or.inl ⟨B.wanted_none rfl, B.wpIn_value (v := .bool true) (w' := W) ?_ ⟨_, rfl, Below.refl _ _, rfl⟩⟩⟩
      go_simp
  case post =>
    intro V1 W hbW hV
    have v13 : V1 13 = .bool true := hV 13 (by omega)
    have hBW : Below w.heap.size w W := hbw3.trans (hbW.mono hbw3.size)
    clear hV kaw
    simp only [B.putAll, Nat.reduceAdd]
    rw [v13]
    simp only [Act.put, List.setIfInBounds_toArray, List.set_cons_zero, List.set_cons_succ]
    change wpListIn _ _ _ _ _ [_] _ _
    gi_wp2
    go_wp2
    go_ret
    exact ⟨rfl, hBW⟩
set_option maxRecDepth 100000 in
set_option maxHeartbeats 8000000 in
theorem hit_bad (w : World) (tb fl lo hi tt : ByteArray) (sh : Bool) (t : V.Tr) (x : V.Ad) (u : V.Tr) (y : V.Ad) (was is : Bool) (T U : V.Tr)
    (kaw : ∀ W, Below w.heap.size w W → Calls Tryd.prog 8 #[] W fun e w' => e = .returned (.bool true) ∧ Below W.heap.size W w')
    (kcut : ∀ W, Below w.heap.size w W → Calls Tryd.prog 7 #[.agg #[.string tt, .bool sh, .int .i64 t.k, .bool t.b, .int .i64 t.n, .string t.s, .slice x.pa t.m x.pc, .slice x.na t.q x.nc, .int .i64 u.k, .bool u.b, .int .i64 u.n, .string u.s, .slice y.pa u.m y.pc, .slice y.na u.q y.nc, .bool was, .bool is]] W fun e w' => ∃ A C, e = .returned (.tuple #[.agg #[.string tt, .bool sh, .int .i64 T.k, .bool T.b, .int .i64 T.n, .string T.s, .slice A.pa T.m A.pc, .slice A.na T.q A.nc, .int .i64 U.k, .bool U.b, .int .i64 U.n, .string U.s, .slice C.pa U.m C.pc, .slice C.na U.q C.nc, .bool was, .bool is], .bool false]) ∧ V.Lies w'.heap.size w' T A ∧ V.Lies w'.heap.size w' U C ∧ Below W.heap.size W w')
    : Calls Tryd.prog 3 #[.agg #[.string tb, .string fl, .string lo, .string hi], .agg #[.string tt, .bool sh, .int .i64 t.k, .bool t.b, .int .i64 t.n, .string t.s, .slice x.pa t.m x.pc, .slice x.na t.q x.nc, .int .i64 u.k, .bool u.b, .int .i64 u.n, .string u.s, .slice y.pa u.m y.pc, .slice y.na u.q y.nc, .bool was, .bool is]] w fun e w' => e = .returned (.bool true) ∧ Below w.heap.size w w' := by
  obtain ⟨w1, hw1⟩ : ∃ w1, (w.alloc (.cells #[.string tb, .string fl, .string lo, .string hi] 25)).alloc (.cells #[.string tt, .bool sh, .int .i64 t.k, .bool t.b, .int .i64 t.n, .string t.s, .slice x.pa t.m x.pc, .slice x.na t.q x.nc, .int .i64 u.k, .bool u.b, .int .i64 u.n, .string u.s, .slice y.pa u.m y.pc, .slice y.na u.q y.nc, .bool was, .bool is] 31) = w1 := ⟨_, rfl⟩
  have hb1 : Below w.heap.size w w1 := by rw [← hw1]; exact ((Below.refl _ w).alloc (Nat.le_refl _) _).alloc (by simp) _
  have r1 : w1.heap[w.heap.size]? = some (.cells #[.string tb, .string fl, .string lo, .string hi] 25 (0, 0)) := by rw [← hw1]; exact (Below.heap_alloc _ _ _ (by simp)).trans (heap_alloc_new _ _)
  have HW : Hid ((w.alloc (.cells #[.string tb, .string fl, .string lo, .string hi] 25)).alloc (.cells #[.string tt, .bool sh, .int .i64 t.k, .bool t.b, .int .i64 t.n, .string t.s, .slice x.pa t.m x.pc, .slice x.na t.q x.nc, .int .i64 u.k, .bool u.b, .int .i64 u.n, .string u.s, .slice y.pa u.m y.pc, .slice y.na u.q y.nc, .bool was, .bool is] 31) = w1) := hw1
  clear hw1
  go_enter Tryd.func3, Tryd.ntmps3
  go_wp2_with fail
  rw [HW.out]
  refine (kcut w1 hb1).mono ?_
  rintro e w2 ⟨A, C, rfl, lA, lC, hb2⟩
  obtain ⟨w3, hw3⟩ : ∃ w3, w2.alloc (.cells #[.string tt, .bool sh, .int .i64 T.k, .bool T.b, .int .i64 T.n, .string T.s, .slice A.pa T.m A.pc, .slice A.na T.q A.nc, .int .i64 U.k, .bool U.b, .int .i64 U.n, .string U.s, .slice C.pa U.m C.pc, .slice C.na U.q C.nc, .bool was, .bool is] 31) = w3 := ⟨_, rfl⟩
  have hb23 : Below w2.heap.size w2 w3 := by rw [← hw3]; exact (Below.refl _ w2).alloc (Nat.le_refl _) _
  have rx : w3.heap[w2.heap.size]? = some (.cells #[.string tt, .bool sh, .int .i64 T.k, .bool T.b, .int .i64 T.n, .string T.s, .slice A.pa T.m A.pc, .slice A.na T.q A.nc, .int .i64 U.k, .bool U.b, .int .i64 U.n, .string U.s, .slice C.pa U.m C.pc, .slice C.na U.q C.nc, .bool was, .bool is] 31 (0, 0)) := by rw [← hw3]; exact heap_alloc_new _ _
  have hb13 : Below w1.heap.size w1 w3 := hb2.trans (hb23.mono hb2.size)
  have rd : w3.heap[w.heap.size]? = some (.cells #[.string tb, .string fl, .string lo, .string hi] 25 (0, 0)) := (hb13.block _ (lt_of_row r1)).trans r1
  have hbw3 : Below w.heap.size w w3 := hb1.trans (hb13.mono hb1.size)
  have mA := lies_more lA hb23
  have mC := lies_more lC hb23
  have HX : Hid (w2.alloc (.cells #[.string tt, .bool sh, .int .i64 T.k, .bool T.b, .int .i64 T.n, .string T.s, .slice A.pa T.m A.pc, .slice A.na T.q A.nc, .int .i64 U.k, .bool U.b, .int .i64 U.n, .string U.s, .slice C.pa U.m C.pc, .slice C.na U.q C.nc, .bool was, .bool is] 31) = w3) := hw3
  clear hw3 hb2 lA lC r1 hb1 hb13 HW kcut hb23
  go_wp2_with fail
  rw [HX.out]
  obtain ⟨zx, hzx⟩ : ∃ z, w2.heap.size = z := ⟨_, rfl⟩
  rw [hzx] at rx ⊢
  clear hzx HX
  refine (wpIn_wide (n := 0)).1 ?_
  refine B.any_tailIn (m := 0) (by kernel_rfl) 14 (by exact Nat.le_of_ble_eq_true rfl) (fun i => i + 12) (B.mixR [] [.bool true, .bool true, .bool false, .bool true, .bool true, undef, undef, undef, undef, undef, undef, undef, .bool true, .bool true]) (by kernel_rfl) (by kernel_rfl) (by kernel_rfl) (by kernel_rfl) (B.mixR_later _ _ (B.stab_nil)) ?step ?post
  case step =>
    intro iq hiq a W hrest hb hk
    have hp2 : a.eval (.tmp 2) = .pointer (some ⟨w.heap.size, 0, none⟩) := (hrest 2 (by intro iq2 hiq2; (repeat' split) <;> omega)).trans rfl
    have fp2 := B.ev hp2
    have hx2 : W.heap[w.heap.size]? = some (.cells #[.string tb, .string fl, .string lo, .string hi] 25 (0, 0)) := (hb.block _ (lt_of_row rd)).trans rd
    have hp5 : a.eval (.tmp 5) = .pointer (some ⟨zx, 0, none⟩) := (hrest 5 (by intro iq2 hiq2; (repeat' split) <;> omega)).trans rfl
    have fp5 := B.ev hp5
    have hx5 : W.heap[zx]? = some (.cells #[.string tt, .bool sh, .int .i64 T.k, .bool T.b, .int .i64 T.n, .string T.s, .slice A.pa T.m A.pc, .slice A.na T.q A.nc, .int .i64 U.k, .bool U.b, .int .i64 U.n, .string U.s, .slice C.pa U.m C.pc, .slice C.na U.q C.nc, .bool was, .bool is] 31 (0, 0)) := (hb.block _ (lt_of_row rx)).trans rx
    have hp6 : a.eval (.tmp 6) = .bool false := (hrest 6 (by intro iq2 hiq2; (repeat' split) <;> omega)).trans rfl
    have fp6 := B.ev hp6
    clear hrest
    obtain rfl | rfl | rfl | rfl | rfl | rfl | rfl | rfl | rfl | rfl | rfl | rfl | rfl | rfl : iq = 0 ∨ iq = 1 ∨ iq = 2 ∨ iq = 3 ∨ iq = 4 ∨ iq = 5 ∨ iq = 6 ∨ iq = 7 ∨ iq = 8 ∨ iq = 9 ∨ iq = 10 ∨ iq = 11 ∨ iq = 12 ∨ iq = 13 := by omega
    · clear hiq
      clear hk
      refine ⟨_, rfl, rfl, Or.inl ⟨B.wanted_none rfl, B.wpIn_enter (f := 8) (args := #[]) ?_ ((kaw W (hbw3.trans (hb.mono hbw3.size))).mono ?_)⟩⟩
      · go_simp
      · rintro e w2 ⟨rfl, hb2⟩
        exact ⟨_, rfl, _, rfl, hb2, rfl⟩
    · clear hiq
      have e0 : a.eval (.tmp 12) = .bool true := hk 0 (B.mem_of (by kernel_rfl))
      have f0 := B.ev e0
      clear hk
      refine ⟨_, rfl, rfl, Or.inl ⟨B.wanted_none rfl, B.wpIn_value (v := .bool true) (w' := W) ?_ ⟨_, rfl, Below.refl _ _, rfl⟩⟩⟩
      go_simp
    · clear hiq
      have e1 : a.eval (.tmp 13) = .bool true := hk 1 (B.mem_of (by kernel_rfl))
      have f1 := B.ev e1
      clear hk
      refine ⟨_, rfl, rfl, Or.inl ⟨B.wanted_of (k := 1) (b := true) rfl rfl e1, B.wpIn_value (v := .bool false) (w' := W) ?_ ⟨_, rfl, Below.refl _ _, rfl⟩⟩⟩
      go_simp
    · clear hiq
      have e1 : a.eval (.tmp 13) = .bool true := hk 1 (B.mem_of (by kernel_rfl))
      have f1 := B.ev e1
      have e2 : a.eval (.tmp 14) = .bool false := hk 2 (B.mem_of (by kernel_rfl))
      have f2 := B.ev e2
      clear hk
      refine ⟨_, rfl, rfl, Or.inl ⟨B.wanted_of (k := 1) (b := true) rfl rfl e1, B.wpIn_value (v := .bool true) (w' := W) ?_ ⟨_, rfl, Below.refl _ _, rfl⟩⟩⟩
      go_simp
    · clear hiq
      have e1 : a.eval (.tmp 13) = .bool true := hk 1 (B.mem_of (by kernel_rfl))
      have f1 := B.ev e1
      have e3 : a.eval (.tmp 15) = .bool true := hk 3 (B.mem_of (by kernel_rfl))
      have f3 := B.ev e3
      clear hk
      refine ⟨_, rfl, rfl, Or.inl ⟨B.wanted_of (k := 1) (b := true) rfl rfl e1, B.wpIn_value (v := .bool true) (w' := W) ?_ ⟨_, rfl, Below.refl _ _, rfl⟩⟩⟩
      go_simp
    · clear hiq
      have e4 : a.eval (.tmp 16) = .bool true := hk 4 (B.mem_of (by kernel_rfl))
      have f4 := B.ev e4
      exact ⟨_, rfl, rfl, Or.inr ⟨B.unwanted_of (k := 4) (b := false) (c := true) rfl rfl e4 rfl, rfl⟩⟩
    · clear hiq
      have e4 : a.eval (.tmp 16) = .bool true := hk 4 (B.mem_of (by kernel_rfl))
      have f4 := B.ev e4
      exact ⟨_, rfl, rfl, Or.inr ⟨B.unwanted_of (k := 4) (b := false) (c := true) rfl rfl e4 rfl, rfl⟩⟩
    · clear hiq
      have e4 : a.eval (.tmp 16) = .bool true := hk 4 (B.mem_of (by kernel_rfl))
      have f4 := B.ev e4
      exact ⟨_, rfl, rfl, Or.inr ⟨B.unwanted_of (k := 4) (b := false) (c := true) rfl rfl e4 rfl, rfl⟩⟩
    · clear hiq
      have e4 : a.eval (.tmp 16) = .bool true := hk 4 (B.mem_of (by kernel_rfl))
      have f4 := B.ev e4
      exact ⟨_, rfl, rfl, Or.inr ⟨B.unwanted_of (k := 4) (b := false) (c := true) rfl rfl e4 rfl, rfl⟩⟩
    · clear hiq
      have e4 : a.eval (.tmp 16) = .bool true := hk 4 (B.mem_of (by kernel_rfl))
      have f4 := B.ev e4
      exact ⟨_, rfl, rfl, Or.inr ⟨B.unwanted_of (k := 4) (b := false) (c := true) rfl rfl e4 rfl, rfl⟩⟩
    · clear hiq
      have e4 : a.eval (.tmp 16) = .bool true := hk 4 (B.mem_of (by kernel_rfl))
      have f4 := B.ev e4
      exact ⟨_, rfl, rfl, Or.inr ⟨B.unwanted_of (k := 4) (b := false) (c := true) rfl rfl e4 rfl, rfl⟩⟩
    · clear hiq
      have e4 : a.eval (.tmp 16) = .bool true := hk 4 (B.mem_of (by kernel_rfl))
      have f4 := B.ev e4
      exact ⟨_, rfl, rfl, Or.inr ⟨B.unwanted_of (k := 4) (b := false) (c := true) rfl rfl e4 rfl, rfl⟩⟩
    · clear hiq
      have e1 : a.eval (.tmp 13) = .bool true := hk 1 (B.mem_of (by kernel_rfl))
      have f1 := B.ev e1
      have e4 : a.eval (.tmp 16) = .bool true := hk 4 (B.mem_of (by kernel_rfl))
      have f4 := B.ev e4
      have e11 : a.eval (.tmp 23) = undef := hk 11 (B.mem_of (by kernel_rfl))
      have f11 := B.ev e11
      clear hk
      refine ⟨_, rfl, rfl, Or.inl ⟨B.wanted_of (k := 1) (b := true) rfl rfl e1, B.wpIn_value (v := .bool true) (w' := W) ?_ ⟨_, rfl, Below.refl _ _, rfl⟩⟩⟩
      go_simp
    · clear hiq
      have e1 : a.eval (.tmp 13) = .bool true := hk 1 (B.mem_of (by kernel_rfl))
      have f1 := B.ev e1
      have e12 : a.eval (.tmp 24) = .bool true := hk 12 (B.mem_of (by kernel_rfl))
      have f12 := B.ev e12
      clear hk
      refine ⟨_, rfl, rfl, Or.inl ⟨B.wanted_none rfl, B.wpIn_value (v := .bool true) (w' := W) ?_ ⟨_, rfl, Below.refl _ _, rfl⟩⟩⟩
      go_simp
  case post =>
    intro V1 W hbW hV
    have v13 : V1 13 = .bool true := hV 13 (by omega)
    have hBW : Below w.heap.size w W := hbw3.trans (hbW.mono hbw3.size)
    clear hV kaw
    simp only [B.putAll, Nat.reduceAdd]
    rw [v13]
    simp only [Act.put, List.setIfInBounds_toArray, List.set_cons_zero, List.set_cons_succ]
    change wpListIn _ _ _ _ _ [_] _ _
    gi_wp2
    go_wp2
    go_ret
    exact ⟨rfl, hBW⟩
theorem good_cutH {t : V.Tr} (h : V.checkT (V.cutT t 3 4) = 0) : Good (V.cutT t 3 4) := ⟨h, V.small_cut t 3 4, V.slimq_cut t 3 4 (by omega), V.slim_cut t 3 4 (by omega)⟩
theorem okH_iff {t u : V.Tr} (h : okB t u = true) : V.checkT t = 0 ∧ V.checkT u = 0 := by
  unfold okB at h
  simpa using h
set_option maxRecDepth 100000 in
theorem hit_walk (w : World) (tb fl lo hi tt : ByteArray) (sh : Bool) (t : V.Tr) (x : V.Ad) (u : V.Tr) (y : V.Ad) (was is : Bool) (hg : V.Gm w) (hL : V.Lies w.heap.size w t x) (hM : V.Lies w.heap.size w u y) :
    Calls Tryd.prog 3 #[.agg (rdA tb fl lo hi), .agg (thA tt sh t x u y was is)] w fun e w' => e = .returned (.bool true) ∧ Below w.heap.size w w' := by
  have kaw : ∀ W, Below w.heap.size w W → Calls Tryd.prog 8 #[] W fun e w' => e = .returned (.bool true) ∧ Below W.heap.size W w' := fun W hb => awake_any W (hg.later hb hg.pos)
  have kcut : ∀ W, Below w.heap.size w W → Calls Tryd.prog 7 #[.agg (thA tt sh t x u y was is)] W fun e w' => ∃ A C, e = .returned (.tuple #[.agg (thA tt sh (V.cutT t 3 4) A (V.cutT u 3 4) C was is), .bool (okB (V.cutT t 3 4) (V.cutT u 3 4))]) ∧ V.Lies w'.heap.size w' (V.cutT t 3 4) A ∧ V.Lies w'.heap.size w' (V.cutT u 3 4) C ∧ Below W.heap.size W w' := fun W hb => cut_th tt sh t x u y was is (hL.later hb) (hM.later hb) hb.size
  have gT := @good_cutH t
  have gU := @good_cutH u
  obtain ⟨T, hT⟩ : ∃ T, V.cutT t 3 4 = T := ⟨_, rfl⟩
  obtain ⟨U, hU⟩ : ∃ T, V.cutT u 3 4 = T := ⟨_, rfl⟩
  rw [hT] at kcut gT
  rw [hU] at kcut gU
  clear hT hU
  cases hO : okB T U with
  | false =>
    rw [hO] at kcut
    exact hit_bad w tb fl lo hi tt sh t x u y was is T U kaw kcut
  | true =>
    rw [hO] at kcut
    have GT := gT (okH_iff hO).1
    have GU := gU (okH_iff hO).2
    exact hit_good w tb fl lo hi tt sh t x u y was is T U kaw kcut _
      (fun W A C hb h1 h2 => hits_any tb fl lo hi tt sh T A U C was is h1 h2 (Nat.le_refl _) (hg.later hb hg.pos) GT GU)
      (fun W A C _ h1 h2 => lhits_any tb fl lo hi tt sh T A U C was is h1 h2 (Nat.le_refl _) GT GU)
end Go.Proofs.YtfcenidepkjdcaaDoor
