/- A touch whose documents are cut (the laws' cut): they lie in the old blocks, or in new ones. -/
import Derived.Test.YtfcenidepkjdcaaDoorCud
namespace Go.Proofs.YtfcenidepkjdcaaDoor
open Go.RowKit Go.Shelf
attribute [local go_sem] Oper.semAt_some
/- A value that lies in the blocks below a place, or behind two blocks. -/
def LyY (Bd z : Nat) (t : V.Tr) (v : Value) (W : World) : Prop := ∃ A, v = t.val A ∧ V.LiesS (fun k => (k < Bd ∨ z + 2 ≤ k) ∧ k < W.heap.size) W t A
theorem LyY.later {Bd z : Nat} {t : V.Tr} : ∀ v W W', LyY Bd z t v W → Below W.heap.size W W' → LyY Bd z t v W' := fun _ _ _ ⟨A, h1, h2⟩ hb => ⟨A, h1, (h2.kept (fun k hk => hb.block k hk.2)).up (fun _ hk => ⟨hk.1, Nat.lt_of_lt_of_le hk.2 hb.size⟩)⟩
set_option maxRecDepth 100000 in
set_option maxHeartbeats 8000000 in
theorem cut_ths {Bd : Nat} {w : World} (tb : ByteArray) (sh : Bool) (t : V.Tr) (x : V.Ad) (u : V.Tr) (y : V.Ad) (was is : Bool) (hL : V.Lies Bd w t x) (hM : V.Lies Bd w u y) (hB : Bd ≤ w.heap.size) :
    Calls Tryd.prog 7 #[.agg (thA tb sh t x u y was is)] w fun e w' => ∃ A C, e = .returned (.tuple #[.agg (thA tb sh (V.cutT t 3 4) A (V.cutT u 3 4) C was is), .bool (okB (V.cutT t 3 4) (V.cutT u 3 4))]) ∧ V.LiesS (fun k => (k < Bd ∨ w.heap.size + 2 ≤ k) ∧ k < w'.heap.size) w' (V.cutT t 3 4) A ∧ V.LiesS (fun k => (k < Bd ∨ w.heap.size + 2 ≤ k) ∧ k < w'.heap.size) w' (V.cutT u 3 4) C ∧ Below w.heap.size w w' := by
  obtain ⟨w1, hw1⟩ : ∃ w1, (w.alloc (.cells #[.string tb, .bool sh, .int .i64 t.k, .bool t.b, .int .i64 t.n, .string t.s, .slice x.pa t.m x.pc, .slice x.na t.q x.nc, .int .i64 u.k, .bool u.b, .int .i64 u.n, .string u.s, .slice y.pa u.m y.pc, .slice y.na u.q y.nc, .bool was, .bool is] 31)).alloc (.cells #[.string ⟨#[]⟩, .bool false, .int .i64 0, .bool false, .int .i64 0, .string ⟨#[]⟩, .slice none 0 0, .slice none 0 0, .int .i64 0, .bool false, .int .i64 0, .string ⟨#[]⟩, .slice none 0 0, .slice none 0 0, .bool false, .bool false] 31) = w1 := ⟨_, rfl⟩
  have hb1 : Below w.heap.size w w1 := by rw [← hw1]; exact ((Below.refl _ w).alloc (Nat.le_refl _) _).alloc (by simp) _
  have hs1 : w1.heap.size = w.heap.size + 2 := by rw [← hw1]; simp
  have r0 : w1.heap[w.heap.size]? = some (.cells #[.string tb, .bool sh, .int .i64 t.k, .bool t.b, .int .i64 t.n, .string t.s, .slice x.pa t.m x.pc, .slice x.na t.q x.nc, .int .i64 u.k, .bool u.b, .int .i64 u.n, .string u.s, .slice y.pa u.m y.pc, .slice y.na u.q y.nc, .bool was, .bool is] 31 (0, 0)) := by rw [← hw1]; exact (Below.heap_alloc _ _ _ (by simp)).trans (heap_alloc_new _ _)
  have r1 : w1.heap[(w.heap.size + 1)]? = some (.cells #[.string ⟨#[]⟩, .bool false, .int .i64 0, .bool false, .int .i64 0, .string ⟨#[]⟩, .slice none 0 0, .slice none 0 0, .int .i64 0, .bool false, .int .i64 0, .string ⟨#[]⟩, .slice none 0 0, .slice none 0 0, .bool false, .bool false] 31 (0, 0)) := by
    rw [← hw1]
    have := heap_alloc_new (w.alloc (.cells #[.string tb, .bool sh, .int .i64 t.k, .bool t.b, .int .i64 t.n, .string t.s, .slice x.pa t.m x.pc, .slice x.na t.q x.nc, .int .i64 u.k, .bool u.b, .int .i64 u.n, .string u.s, .slice y.pa u.m y.pc, .slice y.na u.q y.nc, .bool was, .bool is] 31)) (.cells #[.string ⟨#[]⟩, .bool false, .int .i64 0, .bool false, .int .i64 0, .string ⟨#[]⟩, .slice none 0 0, .slice none 0 0, .int .i64 0, .bool false, .int .i64 0, .string ⟨#[]⟩, .slice none 0 0, .slice none 0 0, .bool false, .bool false] 31)
    simpa using this
  have HW : Hid ((w.alloc (.cells #[.string tb, .bool sh, .int .i64 t.k, .bool t.b, .int .i64 t.n, .string t.s, .slice x.pa t.m x.pc, .slice x.na t.q x.nc, .int .i64 u.k, .bool u.b, .int .i64 u.n, .string u.s, .slice y.pa u.m y.pc, .slice y.na u.q y.nc, .bool was, .bool is] 31)).alloc (.cells #[.string ⟨#[]⟩, .bool false, .int .i64 0, .bool false, .int .i64 0, .string ⟨#[]⟩, .slice none 0 0, .slice none 0 0, .int .i64 0, .bool false, .int .i64 0, .string ⟨#[]⟩, .slice none 0 0, .slice none 0 0, .bool false, .bool false] 31) = w1) := hw1
  clear hw1
  have hct : ∀ W, Below w1.heap.size w1 W → Calls Tryd.prog 21 #[.agg #[.int .i64 t.k, .bool t.b, .int .i64 t.n, .string t.s, .slice x.pa t.m x.pc, .slice x.na t.q x.nc], .int .i64 3, .int .i64 4] W fun e w' => (∃ v, e = .returned v ∧ LyY Bd w.heap.size (V.cutT t 3 4) v w') ∧ Below W.heap.size W w' := fun W hb => by
    have hbW : Below w.heap.size w W := hb1.trans (hb.mono (by omega))
    refine (V.cut_all t Bd W x 3 4 (hL.later (hbW.mono hB)) (Nat.le_trans hB hbW.size) (by omega) (by omega)).mono ?_
    rintro e w' ⟨A, rfl, hA, hb'⟩
    have := hb.size
    have := hb'.size
    exact ⟨⟨_, rfl, A, rfl, hA.up (fun k hk => by omega)⟩, hb'⟩
  have hcu : ∀ W, Below w1.heap.size w1 W → Calls Tryd.prog 21 #[.agg #[.int .i64 u.k, .bool u.b, .int .i64 u.n, .string u.s, .slice y.pa u.m y.pc, .slice y.na u.q y.nc], .int .i64 3, .int .i64 4] W fun e w' => (∃ v, e = .returned v ∧ LyY Bd w.heap.size (V.cutT u 3 4) v w') ∧ Below W.heap.size W w' := fun W hb => by
    have hbW : Below w.heap.size w W := hb1.trans (hb.mono (by omega))
    refine (V.cut_all u Bd W y 3 4 (hM.later (hbW.mono hB)) (Nat.le_trans hB hbW.size) (by omega) (by omega)).mono ?_
    rintro e w' ⟨A, rfl, hA, hb'⟩
    have := hb.size
    have := hb'.size
    exact ⟨⟨_, rfl, A, rfl, hA.up (fun k hk => by omega)⟩, hb'⟩
  have hsT := V.small_cut t 3 4
  have hsU := V.small_cut u 3 4
  clear hL hM
  obtain ⟨T, hT⟩ : ∃ T, V.cutT t 3 4 = T := ⟨_, rfl⟩
  obtain ⟨U, hU⟩ : ∃ U, V.cutT u 3 4 = U := ⟨_, rfl⟩
  rw [hT] at hct hsT ⊢
  rw [hU] at hcu hsU ⊢
  clear hT hU
  obtain ⟨O, hO⟩ : ∃ O, okB T U = O := ⟨_, rfl⟩
  rw [hO]
  have HO : Hid (okB T U = O) := hO
  clear hO
  show Calls Tryd.prog 7 #[.agg #[.string tb, .bool sh, .int .i64 t.k, .bool t.b, .int .i64 t.n, .string t.s, .slice x.pa t.m x.pc, .slice x.na t.q x.nc, .int .i64 u.k, .bool u.b, .int .i64 u.n, .string u.s, .slice y.pa u.m y.pc, .slice y.na u.q y.nc, .bool was, .bool is]] w _
  go_enter Tryd.func7, Tryd.ntmps7
  go_wp2_with fail
  rw [HW.out]
  refine B.any_tail (by kernel_rfl) 7 (by exact Nat.le_of_ble_eq_true rfl) (fun i => i + 4) (B.mixR [(2, LyY Bd w.heap.size T), (5, LyY Bd w.heap.size U)] [.pointer (some ⟨w.heap.size, 2, none⟩), .agg #[.int .i64 t.k, .bool t.b, .int .i64 t.n, .string t.s, .slice x.pa t.m x.pc, .slice x.na t.q x.nc], undef, .pointer (some ⟨w.heap.size, 8, none⟩), .agg #[.int .i64 u.k, .bool u.b, .int .i64 u.n, .string u.s, .slice y.pa u.m y.pc, .slice y.na u.q y.nc], undef, .pointer (some ⟨w.heap.size, 2, none⟩)]) (by kernel_rfl) (by kernel_rfl) (by kernel_rfl) (by kernel_rfl) (B.mixR_later _ _ (B.stab_cons (LyY.later) (B.stab_cons (LyY.later) (B.stab_nil)))) ?step ?post
  case step =>
    intro iq hiq a W hrest hb hk
    have hp1 : a.eval (.tmp 1) = .pointer (some ⟨w.heap.size, 0, none⟩) := (hrest 1 (by intro iq2 hiq2; (repeat' split) <;> omega)).trans rfl
    have fp1 := B.ev hp1
    have hx1 : W.heap[w.heap.size]? = some (.cells #[.string tb, .bool sh, .int .i64 t.k, .bool t.b, .int .i64 t.n, .string t.s, .slice x.pa t.m x.pc, .slice x.na t.q x.nc, .int .i64 u.k, .bool u.b, .int .i64 u.n, .string u.s, .slice y.pa u.m y.pc, .slice y.na u.q y.nc, .bool was, .bool is] 31 (0, 0)) := (hb.block _ (lt_of_row r0)).trans r0
    clear hrest
    obtain rfl | rfl | rfl | rfl | rfl | rfl | rfl : iq = 0 ∨ iq = 1 ∨ iq = 2 ∨ iq = 3 ∨ iq = 4 ∨ iq = 5 ∨ iq = 6 := by omega
    · clear hiq
      clear hk
      refine ⟨_, rfl, rfl, rfl, B.wp_value (v := .pointer (some ⟨w.heap.size, 2, none⟩)) (w' := W) ?_ ⟨_, rfl, Below.refl _ _, rfl⟩⟩
      go_simp
    · clear hiq
      have e0 : a.eval (.tmp 4) = .pointer (some ⟨w.heap.size, 2, none⟩) := hk 0 (B.mem_of (by kernel_rfl))
      have f0 := B.ev e0
      have hc2 := cell_of_row W w.heap.size 2 _ _ _ hx1
      have hc3 := cell_of_row W w.heap.size 3 _ _ _ hx1
      have hc4 := cell_of_row W w.heap.size 4 _ _ _ hx1
      have hc5 := cell_of_row W w.heap.size 5 _ _ _ hx1
      have hc6 := cell_of_row W w.heap.size 6 _ _ _ hx1
      have hc7 := cell_of_row W w.heap.size 7 _ _ _ hx1
      clear hk
      refine ⟨_, rfl, rfl, rfl, B.wp_value (v := .agg #[.int .i64 t.k, .bool t.b, .int .i64 t.n, .string t.s, .slice x.pa t.m x.pc, .slice x.na t.q x.nc]) (w' := W) ?_ ⟨_, rfl, Below.refl _ _, rfl⟩⟩
      go_simp
    · clear hiq
      have e1 : a.eval (.tmp 5) = .agg #[.int .i64 t.k, .bool t.b, .int .i64 t.n, .string t.s, .slice x.pa t.m x.pc, .slice x.na t.q x.nc] := hk 1 (B.mem_of (by kernel_rfl))
      have f1 := B.ev e1
      clear hk
      refine ⟨_, rfl, rfl, rfl, B.wp_enter (f := 21) (args := #[.agg #[.int .i64 t.k, .bool t.b, .int .i64 t.n, .string t.s, .slice x.pa t.m x.pc, .slice x.na t.q x.nc], .int .i64 3, .int .i64 4]) ?_ ((hct W hb).mono ?_)⟩
      · go_simp
      · rintro e w2 ⟨⟨u, rfl, hu⟩, hb2⟩
        exact ⟨_, rfl, _, rfl, hb2, hu⟩
    · clear hiq
      clear hk
      refine ⟨_, rfl, rfl, rfl, B.wp_value (v := .pointer (some ⟨w.heap.size, 8, none⟩)) (w' := W) ?_ ⟨_, rfl, Below.refl _ _, rfl⟩⟩
      go_simp
    · clear hiq
      have e3 : a.eval (.tmp 7) = .pointer (some ⟨w.heap.size, 8, none⟩) := hk 3 (B.mem_of (by kernel_rfl))
      have f3 := B.ev e3
      have hc8 := cell_of_row W w.heap.size 8 _ _ _ hx1
      have hc9 := cell_of_row W w.heap.size 9 _ _ _ hx1
      have hc10 := cell_of_row W w.heap.size 10 _ _ _ hx1
      have hc11 := cell_of_row W w.heap.size 11 _ _ _ hx1
      have hc12 := cell_of_row W w.heap.size 12 _ _ _ hx1
      have hc13 := cell_of_row W w.heap.size 13 _ _ _ hx1
      clear hk
      refine ⟨_, rfl, rfl, rfl, B.wp_value (v := .agg #[.int .i64 u.k, .bool u.b, .int .i64 u.n, .string u.s, .slice y.pa u.m y.pc, .slice y.na u.q y.nc]) (w' := W) ?_ ⟨_, rfl, Below.refl _ _, rfl⟩⟩
      go_simp
    · clear hiq
      have e4 : a.eval (.tmp 8) = .agg #[.int .i64 u.k, .bool u.b, .int .i64 u.n, .string u.s, .slice y.pa u.m y.pc, .slice y.na u.q y.nc] := hk 4 (B.mem_of (by kernel_rfl))
      have f4 := B.ev e4
      clear hk
      refine ⟨_, rfl, rfl, rfl, B.wp_enter (f := 21) (args := #[.agg #[.int .i64 u.k, .bool u.b, .int .i64 u.n, .string u.s, .slice y.pa u.m y.pc, .slice y.na u.q y.nc], .int .i64 3, .int .i64 4]) ?_ ((hcu W hb).mono ?_)⟩
      · go_simp
      · rintro e w2 ⟨⟨u, rfl, hu⟩, hb2⟩
        exact ⟨_, rfl, _, rfl, hb2, hu⟩
    · clear hiq
      clear hk
      refine ⟨_, rfl, rfl, rfl, B.wp_value (v := .pointer (some ⟨w.heap.size, 2, none⟩)) (w' := W) ?_ ⟨_, rfl, Below.refl _ _, rfl⟩⟩
      go_simp
  case post =>
    intro V1 W hbW hV
    obtain ⟨A, e2, hA⟩ : LyY Bd w.heap.size T (V1 2) W := hV 2 (by omega)
    obtain ⟨C, e5, hC⟩ : LyY Bd w.heap.size U (V1 5) W := hV 5 (by omega)
    have e6 : V1 6 = .pointer (some ⟨w.heap.size, 2, none⟩) := hV 6 (by omega)
    clear hV hct hcu HW
    have rW : W.heap[w.heap.size]? = some (.cells #[.string tb, .bool sh, .int .i64 t.k, .bool t.b, .int .i64 t.n, .string t.s, .slice x.pa t.m x.pc, .slice x.na t.q x.nc, .int .i64 u.k, .bool u.b, .int .i64 u.n, .string u.s, .slice y.pa u.m y.pc, .slice y.na u.q y.nc, .bool was, .bool is] 31 (0, 0)) := (hbW.block _ (lt_of_row r0)).trans r0
    have rR : W.heap[(w.heap.size + 1)]? = some (.cells #[.string ⟨#[]⟩, .bool false, .int .i64 0, .bool false, .int .i64 0, .string ⟨#[]⟩, .slice none 0 0, .slice none 0 0, .int .i64 0, .bool false, .int .i64 0, .string ⟨#[]⟩, .slice none 0 0, .slice none 0 0, .bool false, .bool false] 31 (0, 0)) := (hbW.block _ (lt_of_row r1)).trans r1
    have hszW := hbW.size
    simp only [B.putAll, Nat.reduceAdd]
    unfold V.Tr.val at e2 e5
    rw [e2, e5, e6]
    simp only [Act.put, List.setIfInBounds_toArray, List.set_cons_zero, List.set_cons_succ]
    obtain ⟨W2, hW2⟩ : ∃ W2, W.setCells w.heap.size 2 #[.int .i64 T.k, .bool T.b, .int .i64 T.n, .string T.s, .slice A.pa T.m A.pc, .slice A.na T.q A.nc].toList = W2 := ⟨_, rfl⟩
    have q2 : W2.heap[w.heap.size]? = some (.cells #[.string tb, .bool sh, .int .i64 T.k, .bool T.b, .int .i64 T.n, .string T.s, .slice A.pa T.m A.pc, .slice A.na T.q A.nc, .int .i64 u.k, .bool u.b, .int .i64 u.n, .string u.s, .slice y.pa u.m y.pc, .slice y.na u.q y.nc, .bool was, .bool is] 31 (0, 0)) := by rw [← hW2]; exact set_old _ _ _ _ _ _ _ _ _ _ _ _ _ _ _ _ _ _ _ _ _ _ _ _ rW
    have o2 : V.Only w.heap.size W W2 := by rw [← hW2]; exact only_setCells _ _ _ (V.Only.refl _ _)
    obtain ⟨W3, hW3⟩ : ∃ W3, W2.setCells w.heap.size 8 #[.int .i64 U.k, .bool U.b, .int .i64 U.n, .string U.s, .slice C.pa U.m C.pc, .slice C.na U.q C.nc].toList = W3 := ⟨_, rfl⟩
    have q3 : W3.heap[w.heap.size]? = some (.cells #[.string tb, .bool sh, .int .i64 T.k, .bool T.b, .int .i64 T.n, .string T.s, .slice A.pa T.m A.pc, .slice A.na T.q A.nc, .int .i64 U.k, .bool U.b, .int .i64 U.n, .string U.s, .slice C.pa U.m C.pc, .slice C.na U.q C.nc, .bool was, .bool is] 31 (0, 0)) := by rw [← hW3]; exact set_new _ _ _ _ _ _ _ _ _ _ _ _ _ _ _ _ _ _ _ _ _ _ _ _ q2
    have o3 : V.Only w.heap.size W W3 := by rw [← hW3]; exact only_setCells _ _ _ o2
    have s3 := o3.size
    have p3 : W3.heap[(w.heap.size + 1)]? = some (.cells #[.string ⟨#[]⟩, .bool false, .int .i64 0, .bool false, .int .i64 0, .string ⟨#[]⟩, .slice none 0 0, .slice none 0 0, .int .i64 0, .bool false, .int .i64 0, .string ⟨#[]⟩, .slice none 0 0, .slice none 0 0, .bool false, .bool false] 31 (0, 0)) := (o3.block _ (lt_of_row rR) (by omega)).trans rR
    have kA : V.LiesS (fun k => (k < Bd ∨ w.heap.size + 2 ≤ k) ∧ k < W3.heap.size) W3 T A := (hA.kept (fun k hk => o3.block k hk.2 (by omega))).up (fun k hk => ⟨hk.1, by omega⟩)
    have kC : V.LiesS (fun k => (k < Bd ∨ w.heap.size + 2 ≤ k) ∧ k < W3.heap.size) W3 U C := (hC.kept (fun k hk => o3.block k hk.2 (by omega))).up (fun k hk => ⟨hk.1, by omega⟩)
    have hb3 : Below w.heap.size w W3 := (hb1.trans (hbW.mono (by omega))).trans (o3.below (Nat.le_refl _) (by omega))
    have HX2 : Hid (W.setCells w.heap.size 2 #[.int .i64 T.k, .bool T.b, .int .i64 T.n, .string T.s, .slice A.pa T.m A.pc, .slice A.na T.q A.nc].toList = W2 ∧ W.heap[w.heap.size]? = some (.cells #[.string tb, .bool sh, .int .i64 t.k, .bool t.b, .int .i64 t.n, .string t.s, .slice x.pa t.m x.pc, .slice x.na t.q x.nc, .int .i64 u.k, .bool u.b, .int .i64 u.n, .string u.s, .slice y.pa u.m y.pc, .slice y.na u.q y.nc, .bool was, .bool is] 31 (0, 0))) := ⟨hW2, rW⟩
    have HX3 : Hid (W2.setCells w.heap.size 8 #[.int .i64 U.k, .bool U.b, .int .i64 U.n, .string U.s, .slice C.pa U.m C.pc, .slice C.na U.q C.nc].toList = W3 ∧ W2.heap[w.heap.size]? = some (.cells #[.string tb, .bool sh, .int .i64 T.k, .bool T.b, .int .i64 T.n, .string T.s, .slice A.pa T.m A.pc, .slice A.na T.q A.nc, .int .i64 u.k, .bool u.b, .int .i64 u.n, .string u.s, .slice y.pa u.m y.pc, .slice y.na u.q y.nc, .bool was, .bool is] 31 (0, 0))) := ⟨hW3, q2⟩
    clear hW2 hW3 q2 o2 o3 rW rR r0 r1 hbW hA hC e2 e5 e6 hb1
    simp only [List.drop_succ_cons, List.drop_zero]
    refine wpList_store_mid rfl 29 (.tmp 10) (.tmp 6) rfl w.heap.size 2 _ rfl rfl (there_mid HX2.out.2 (by simp)) info34 (by simp [Value.oneCell']) ?_
    rw [HX2.out.1]
    go_wp2_with (first | (refine wpList_store_mid rfl 29 (.tmp 11) (.tmp 9) rfl w.heap.size 8 _ rfl rfl (there_mid HX3.out.2 (by simp)) info34 (by simp [Value.oneCell']) ?_; rw [HX3.out.1]) | fail)
    clear HX2 HX3
    have kt : ∀ W, Fz (w.heap.size + 1) (some (.cells #[.string ⟨#[]⟩, .bool false, .int .i64 0, .bool false, .int .i64 0, .string ⟨#[]⟩, .slice none 0 0, .slice none 0 0, .int .i64 0, .bool false, .int .i64 0, .string ⟨#[]⟩, .slice none 0 0, .slice none 0 0, .bool false, .bool false] 31 (0, 0))) (some (.cells #[.string tb, .bool sh, .int .i64 T.k, .bool T.b, .int .i64 T.n, .string T.s, .slice A.pa T.m A.pc, .slice A.na T.q A.nc, .int .i64 U.k, .bool U.b, .int .i64 U.n, .string U.s, .slice C.pa U.m C.pc, .slice C.na U.q C.nc, .bool was, .bool is] 31 (0, 0))) W3 W → Calls Tryd.prog 22 #[.agg #[.int .i64 T.k, .bool T.b, .int .i64 T.n, .string T.s, .slice A.pa T.m A.pc, .slice A.na T.q A.nc]] W fun e w' => e = .returned (.int .i64 (V.checkT T)) ∧ Below W.heap.size W w' := fun W hf =>
      V.check_any (B := W.heap.size) (w := W) ((kA.kept (fun k hk => hf.1.block k hk.2 (by omega))).up (fun k hk => by have := hf.1.size; omega)) (Nat.le_refl _) hsT
    have ku : ∀ W, Fz (w.heap.size + 1) (some (.cells #[.string ⟨#[]⟩, .bool false, .int .i64 0, .bool false, .int .i64 0, .string ⟨#[]⟩, .slice none 0 0, .slice none 0 0, .int .i64 0, .bool false, .int .i64 0, .string ⟨#[]⟩, .slice none 0 0, .slice none 0 0, .bool false, .bool false] 31 (0, 0))) (some (.cells #[.string tb, .bool sh, .int .i64 T.k, .bool T.b, .int .i64 T.n, .string T.s, .slice A.pa T.m A.pc, .slice A.na T.q A.nc, .int .i64 U.k, .bool U.b, .int .i64 U.n, .string U.s, .slice C.pa U.m C.pc, .slice C.na U.q C.nc, .bool was, .bool is] 31 (0, 0))) W3 W → Calls Tryd.prog 22 #[.agg #[.int .i64 U.k, .bool U.b, .int .i64 U.n, .string U.s, .slice C.pa U.m C.pc, .slice C.na U.q C.nc]] W fun e w' => e = .returned (.int .i64 (V.checkT U)) ∧ Below W.heap.size W w' := fun W hf =>
      V.check_any (B := W.heap.size) (w := W) ((kC.kept (fun k hk => hf.1.block k hk.2 (by omega))).up (fun k hk => by have := hf.1.size; omega)) (Nat.le_refl _) hsU
    have HO2 : Hid ((decide (V.checkT T = 0) && decide (V.checkT U = 0)) = O) := HO
    clear HO
    obtain ⟨c1, hc1⟩ : ∃ c, V.checkT T = c := ⟨_, rfl⟩
    obtain ⟨c2, hc2⟩ : ∃ c, V.checkT U = c := ⟨_, rfl⟩
    rw [hc1] at kt HO2
    rw [hc2] at ku HO2
    clear hc1 hc2 hsT hsU
    have lz := lt_of_row p3
    refine (wpIn_wide (n := 0)).1 ?_
    by_cases h1 : c1 = 0
    · subst h1
      obtain rfl : (c2 == 0) = O := by rw [← HO2.out]; simp [BEq.beq]
      clear HO2
      refine B.any_storeIn (m := 0) (by kernel_rfl) 12 (by exact Nat.le_of_ble_eq_true rfl) (fun i => if i = 11 then 1000 else i + 12) (mixF 11 (fun W => W.heap[(w.heap.size + 1)]? = some (.cells #[.string tb, .bool sh, .int .i64 T.k, .bool T.b, .int .i64 T.n, .string T.s, .slice A.pa T.m A.pc, .slice A.na T.q A.nc, .int .i64 U.k, .bool U.b, .int .i64 U.n, .string U.s, .slice C.pa U.m C.pc, .slice C.na U.q C.nc, .bool was, .bool is] 31 (0, 0))) [.agg #[.string tb, .bool sh, .int .i64 T.k, .bool T.b, .int .i64 T.n, .string T.s, .slice A.pa T.m A.pc, .slice A.na T.q A.nc, .int .i64 U.k, .bool U.b, .int .i64 U.n, .string U.s, .slice C.pa U.m C.pc, .slice C.na U.q C.nc, .bool was, .bool is], .pointer (some ⟨w.heap.size, 2, none⟩), .agg #[.int .i64 T.k, .bool T.b, .int .i64 T.n, .string T.s, .slice A.pa T.m A.pc, .slice A.na T.q A.nc], .int .i64 0, .bool true, .bool true, .pointer (some ⟨w.heap.size, 8, none⟩), .agg #[.int .i64 U.k, .bool U.b, .int .i64 U.n, .string U.s, .slice C.pa U.m C.pc, .slice C.na U.q C.nc], .int .i64 c2, .bool (c2 == 0), .bool (c2 == 0), undef]) (Fz (w.heap.size + 1) (some (.cells #[.string ⟨#[]⟩, .bool false, .int .i64 0, .bool false, .int .i64 0, .string ⟨#[]⟩, .slice none 0 0, .slice none 0 0, .int .i64 0, .bool false, .int .i64 0, .string ⟨#[]⟩, .slice none 0 0, .slice none 0 0, .bool false, .bool false] 31 (0, 0))) (some (.cells #[.string tb, .bool sh, .int .i64 T.k, .bool T.b, .int .i64 T.n, .string T.s, .slice A.pa T.m A.pc, .slice A.na T.q A.nc, .int .i64 U.k, .bool U.b, .int .i64 U.n, .string U.s, .slice C.pa U.m C.pc, .slice C.na U.q C.nc, .bool was, .bool is] 31 (0, 0)))) (Fz.drew _ _ _ _) (Fz.refl _ _ _) (fun _ _ _ => Fz.trans) (by kernel_rfl) (by kernel_rfl) (by kernel_rfl) (mixF_later _ _ _ _ (fun _ _ h hf => hf.2.1 h)) ?step ?post
      case step =>
        intro iq hiq a W hrest hb hk
        have hp1 : a.eval (.tmp 1) = .pointer (some ⟨w.heap.size, 0, none⟩) := (hrest 1 (by intro iq2 hiq2; (repeat' split) <;> omega)).trans rfl
        have fp1 := B.ev hp1
        have hx1 : W.heap[w.heap.size]? = some (.cells #[.string tb, .bool sh, .int .i64 T.k, .bool T.b, .int .i64 T.n, .string T.s, .slice A.pa T.m A.pc, .slice A.na T.q A.nc, .int .i64 U.k, .bool U.b, .int .i64 U.n, .string U.s, .slice C.pa U.m C.pc, .slice C.na U.q C.nc, .bool was, .bool is] 31 (0, 0)) := (hb.1.block _ (lt_of_row q3) (by omega)).trans q3
        have hp2 : a.eval (.tmp 2) = .pointer (some ⟨(w.heap.size + 1), 0, none⟩) := (hrest 2 (by intro iq2 hiq2; (repeat' split) <;> omega)).trans rfl
        have fp2 := B.ev hp2
        clear hrest
        obtain rfl | rfl | rfl | rfl | rfl | rfl | rfl | rfl | rfl | rfl | rfl | rfl : iq = 0 ∨ iq = 1 ∨ iq = 2 ∨ iq = 3 ∨ iq = 4 ∨ iq = 5 ∨ iq = 6 ∨ iq = 7 ∨ iq = 8 ∨ iq = 9 ∨ iq = 10 ∨ iq = 11 := by omega
        · clear hiq
          have hc0 := cell_of_row W w.heap.size 0 _ _ _ hx1
          have hc1 := cell_of_row W w.heap.size 1 _ _ _ hx1
          have hc2 := cell_of_row W w.heap.size 2 _ _ _ hx1
          have hc3 := cell_of_row W w.heap.size 3 _ _ _ hx1
          have hc4 := cell_of_row W w.heap.size 4 _ _ _ hx1
          have hc5 := cell_of_row W w.heap.size 5 _ _ _ hx1
          have hc6 := cell_of_row W w.heap.size 6 _ _ _ hx1
          have hc7 := cell_of_row W w.heap.size 7 _ _ _ hx1
          have hc8 := cell_of_row W w.heap.size 8 _ _ _ hx1
          have hc9 := cell_of_row W w.heap.size 9 _ _ _ hx1
          have hc10 := cell_of_row W w.heap.size 10 _ _ _ hx1
          have hc11 := cell_of_row W w.heap.size 11 _ _ _ hx1
          have hc12 := cell_of_row W w.heap.size 12 _ _ _ hx1
          have hc13 := cell_of_row W w.heap.size 13 _ _ _ hx1
          have hc14 := cell_of_row W w.heap.size 14 _ _ _ hx1
          have hc15 := cell_of_row W w.heap.size 15 _ _ _ hx1
          clear hk
          refine ⟨_, rfl, Or.inl ⟨rfl, by exact Nat.le_of_ble_eq_true rfl⟩, Or.inl ⟨B.wanted_none rfl, B.wpIn_value (v := .agg #[.string tb, .bool sh, .int .i64 T.k, .bool T.b, .int .i64 T.n, .string T.s, .slice A.pa T.m A.pc, .slice A.na T.q A.nc, .int .i64 U.k, .bool U.b, .int .i64 U.n, .string U.s, .slice C.pa U.m C.pc, .slice C.na U.q C.nc, .bool was, .bool is]) (w' := W) ?_ ⟨_, rfl, Fz.refl _ _ _ _, rfl, fun h => (by cases h)⟩⟩⟩
          go_simp
        · clear hiq
          clear hk
          refine ⟨_, rfl, Or.inl ⟨rfl, by exact Nat.le_of_ble_eq_true rfl⟩, Or.inl ⟨B.wanted_none rfl, B.wpIn_value (v := .pointer (some ⟨w.heap.size, 2, none⟩)) (w' := W) ?_ ⟨_, rfl, Fz.refl _ _ _ _, rfl, fun h => (by cases h)⟩⟩⟩
          go_simp
        · clear hiq
          have e1 : a.eval (.tmp 13) = .pointer (some ⟨w.heap.size, 2, none⟩) := hk 1 (B.mem_of (by kernel_rfl))
          have f1 := B.ev e1
          have hc2 := cell_of_row W w.heap.size 2 _ _ _ hx1
          have hc3 := cell_of_row W w.heap.size 3 _ _ _ hx1
          have hc4 := cell_of_row W w.heap.size 4 _ _ _ hx1
          have hc5 := cell_of_row W w.heap.size 5 _ _ _ hx1
          have hc6 := cell_of_row W w.heap.size 6 _ _ _ hx1
          have hc7 := cell_of_row W w.heap.size 7 _ _ _ hx1
          clear hk
          refine ⟨_, rfl, Or.inl ⟨rfl, by exact Nat.le_of_ble_eq_true rfl⟩, Or.inl ⟨B.wanted_none rfl, B.wpIn_value (v := .agg #[.int .i64 T.k, .bool T.b, .int .i64 T.n, .string T.s, .slice A.pa T.m A.pc, .slice A.na T.q A.nc]) (w' := W) ?_ ⟨_, rfl, Fz.refl _ _ _ _, rfl, fun h => (by cases h)⟩⟩⟩
          go_simp
        · clear hiq
          have e2 : a.eval (.tmp 14) = .agg #[.int .i64 T.k, .bool T.b, .int .i64 T.n, .string T.s, .slice A.pa T.m A.pc, .slice A.na T.q A.nc] := hk 2 (B.mem_of (by kernel_rfl))
          have f2 := B.ev e2
          clear hk
          refine ⟨_, rfl, Or.inl ⟨rfl, by exact Nat.le_of_ble_eq_true rfl⟩, Or.inl ⟨B.wanted_none rfl, B.wpIn_enter (f := 22) (args := #[.agg #[.int .i64 T.k, .bool T.b, .int .i64 T.n, .string T.s, .slice A.pa T.m A.pc, .slice A.na T.q A.nc]]) ?_ ((kt W hb).mono ?_)⟩⟩
          · go_simp
          · rintro e w2 ⟨rfl, hb2⟩
            exact ⟨_, rfl, _, rfl, Fz.of hb2 (by have := hb.1.size; omega), rfl, fun h => (by cases h)⟩
        · clear hiq
          have e3 : a.eval (.tmp 15) = .int .i64 0 := hk 3 (B.mem_of (by kernel_rfl))
          have f3 := B.ev e3
          clear hk
          refine ⟨_, rfl, Or.inl ⟨rfl, by exact Nat.le_of_ble_eq_true rfl⟩, Or.inl ⟨B.wanted_none rfl, B.wpIn_value (v := .bool true) (w' := W) ?_ ⟨_, rfl, Fz.refl _ _ _ _, rfl, fun h => (by cases h)⟩⟩⟩
          go_simp
        · clear hiq
          have e4 : a.eval (.tmp 16) = .bool true := hk 4 (B.mem_of (by kernel_rfl))
          have f4 := B.ev e4
          clear hk
          refine ⟨_, rfl, Or.inl ⟨rfl, by exact Nat.le_of_ble_eq_true rfl⟩, Or.inl ⟨B.wanted_none rfl, B.wpIn_value (v := .bool true) (w' := W) ?_ ⟨_, rfl, Fz.refl _ _ _ _, rfl, fun h => (by cases h)⟩⟩⟩
          go_simp
        · clear hiq
          have e5 : a.eval (.tmp 17) = .bool true := hk 5 (B.mem_of (by kernel_rfl))
          have f5 := B.ev e5
          clear hk
          refine ⟨_, rfl, Or.inl ⟨rfl, by exact Nat.le_of_ble_eq_true rfl⟩, Or.inl ⟨B.wanted_of (k := 5) (b := true) rfl rfl e5, B.wpIn_value (v := .pointer (some ⟨w.heap.size, 8, none⟩)) (w' := W) ?_ ⟨_, rfl, Fz.refl _ _ _ _, rfl, fun h => (by cases h)⟩⟩⟩
          go_simp
        · clear hiq
          have e5 : a.eval (.tmp 17) = .bool true := hk 5 (B.mem_of (by kernel_rfl))
          have f5 := B.ev e5
          have e6 : a.eval (.tmp 18) = .pointer (some ⟨w.heap.size, 8, none⟩) := hk 6 (B.mem_of (by kernel_rfl))
          have f6 := B.ev e6
          have hc8 := cell_of_row W w.heap.size 8 _ _ _ hx1
          have hc9 := cell_of_row W w.heap.size 9 _ _ _ hx1
          have hc10 := cell_of_row W w.heap.size 10 _ _ _ hx1
          have hc11 := cell_of_row W w.heap.size 11 _ _ _ hx1
          have hc12 := cell_of_row W w.heap.size 12 _ _ _ hx1
          have hc13 := cell_of_row W w.heap.size 13 _ _ _ hx1
          clear hk
          refine ⟨_, rfl, Or.inl ⟨rfl, by exact Nat.le_of_ble_eq_true rfl⟩, Or.inl ⟨B.wanted_of (k := 5) (b := true) rfl rfl e5, B.wpIn_value (v := .agg #[.int .i64 U.k, .bool U.b, .int .i64 U.n, .string U.s, .slice C.pa U.m C.pc, .slice C.na U.q C.nc]) (w' := W) ?_ ⟨_, rfl, Fz.refl _ _ _ _, rfl, fun h => (by cases h)⟩⟩⟩
          go_simp
        · clear hiq
          have e5 : a.eval (.tmp 17) = .bool true := hk 5 (B.mem_of (by kernel_rfl))
          have f5 := B.ev e5
          have e7 : a.eval (.tmp 19) = .agg #[.int .i64 U.k, .bool U.b, .int .i64 U.n, .string U.s, .slice C.pa U.m C.pc, .slice C.na U.q C.nc] := hk 7 (B.mem_of (by kernel_rfl))
          have f7 := B.ev e7
          clear hk
          refine ⟨_, rfl, Or.inl ⟨rfl, by exact Nat.le_of_ble_eq_true rfl⟩, Or.inl ⟨B.wanted_of (k := 5) (b := true) rfl rfl e5, B.wpIn_enter (f := 22) (args := #[.agg #[.int .i64 U.k, .bool U.b, .int .i64 U.n, .string U.s, .slice C.pa U.m C.pc, .slice C.na U.q C.nc]]) ?_ ((ku W hb).mono ?_)⟩⟩
          · go_simp
          · rintro e w2 ⟨rfl, hb2⟩
            exact ⟨_, rfl, _, rfl, Fz.of hb2 (by have := hb.1.size; omega), rfl, fun h => (by cases h)⟩
        · clear hiq
          have e5 : a.eval (.tmp 17) = .bool true := hk 5 (B.mem_of (by kernel_rfl))
          have f5 := B.ev e5
          have e8 : a.eval (.tmp 20) = .int .i64 c2 := hk 8 (B.mem_of (by kernel_rfl))
          have f8 := B.ev e8
          clear hk
          refine ⟨_, rfl, Or.inl ⟨rfl, by exact Nat.le_of_ble_eq_true rfl⟩, Or.inl ⟨B.wanted_of (k := 5) (b := true) rfl rfl e5, B.wpIn_value (v := .bool (c2 == 0)) (w' := W) ?_ ⟨_, rfl, Fz.refl _ _ _ _, rfl, fun h => (by cases h)⟩⟩⟩
          go_simp
        · clear hiq
          have e5 : a.eval (.tmp 17) = .bool true := hk 5 (B.mem_of (by kernel_rfl))
          have f5 := B.ev e5
          have e9 : a.eval (.tmp 21) = .bool (c2 == 0) := hk 9 (B.mem_of (by kernel_rfl))
          have f9 := B.ev e9
          clear hk
          refine ⟨_, rfl, Or.inl ⟨rfl, by exact Nat.le_of_ble_eq_true rfl⟩, Or.inl ⟨B.wanted_none rfl, B.wpIn_value (v := .bool (c2 == 0)) (w' := W) ?_ ⟨_, rfl, Fz.refl _ _ _ _, rfl, fun h => (by cases h)⟩⟩⟩
          go_simp
        · clear hiq
          have e0 : a.eval (.tmp 12) = .agg #[.string tb, .bool sh, .int .i64 T.k, .bool T.b, .int .i64 T.n, .string T.s, .slice A.pa T.m A.pc, .slice A.na T.q A.nc, .int .i64 U.k, .bool U.b, .int .i64 U.n, .string U.s, .slice C.pa U.m C.pc, .slice C.na U.q C.nc, .bool was, .bool is] := hk 0 (B.mem_of (by kernel_rfl))
          have f0 := B.ev e0
          clear hk
          have hrow : ∃ cs, W.heap[(w.heap.size + 1)]? = some (.cells cs 31 (0, 0)) ∧ cs.size = 16 := by rcases hb.2.2 p3 with h | h <;> exact ⟨_, h, rfl⟩
          obtain ⟨cs, hcs, hcn⟩ := hrow
          refine ⟨_, rfl, Or.inr ⟨rfl, by exact Nat.le_of_ble_eq_true rfl⟩, Or.inl ⟨B.wanted_none rfl, wpIn_store 31 (.tmp 2) (.tmp 12) rfl (w.heap.size + 1) 0 #[.string tb, .bool sh, .int .i64 T.k, .bool T.b, .int .i64 T.n, .string T.s, .slice A.pa T.m A.pc, .slice A.na T.q A.nc, .int .i64 U.k, .bool U.b, .int .i64 U.n, .string U.s, .slice C.pa U.m C.pc, .slice C.na U.q C.nc, .bool was, .bool is] hp2 e0 (there_of_row hcs (by rw [hcn]; exact Nat.le_refl _)) info31 (by simp [Value.oneCell']) ⟨_, rfl, ?_, ?_, fun _ => rfl⟩⟩⟩
          · exact ⟨only_setCells _ _ _ (V.Only.refl _ _), fun _ => put_row (W := W) #[.string tb, .bool sh, .int .i64 T.k, .bool T.b, .int .i64 T.n, .string T.s, .slice A.pa T.m A.pc, .slice A.na T.q A.nc, .int .i64 U.k, .bool U.b, .int .i64 U.n, .string U.s, .slice C.pa U.m C.pc, .slice C.na U.q C.nc, .bool was, .bool is] hcs (by rw [hcn]; rfl), fun _ => Or.inr (put_row (W := W) #[.string tb, .bool sh, .int .i64 T.k, .bool T.b, .int .i64 T.n, .string T.s, .slice A.pa T.m A.pc, .slice A.na T.q A.nc, .int .i64 U.k, .bool U.b, .int .i64 U.n, .string U.s, .slice C.pa U.m C.pc, .slice C.na U.q C.nc, .bool was, .bool is] hcs (by rw [hcn]; rfl))⟩
          · exact put_row (W := W) #[.string tb, .bool sh, .int .i64 T.k, .bool T.b, .int .i64 T.n, .string T.s, .slice A.pa T.m A.pc, .slice A.na T.q A.nc, .int .i64 U.k, .bool U.b, .int .i64 U.n, .string U.s, .slice C.pa U.m C.pc, .slice C.na U.q C.nc, .bool was, .bool is] hcs (by rw [hcn]; rfl)
      case post =>
        intro V2 W4 hf hV
        have v10 : V2 10 = .bool (c2 == 0) := hV 10 (by omega)
        have v11 : W4.heap[(w.heap.size + 1)]? = some (.cells #[.string tb, .bool sh, .int .i64 T.k, .bool T.b, .int .i64 T.n, .string T.s, .slice A.pa T.m A.pc, .slice A.na T.q A.nc, .int .i64 U.k, .bool U.b, .int .i64 U.n, .string U.s, .slice C.pa U.m C.pc, .slice C.na U.q C.nc, .bool was, .bool is] 31 (0, 0)) := hV 11 (by omega)
        have hsz4 := hf.1.size
        have jA : V.LiesS (fun k => (k < Bd ∨ w.heap.size + 2 ≤ k) ∧ k < W4.heap.size) W4 T A := (kA.kept (fun k hk => hf.1.block k hk.2 (by omega))).up (fun k hk => ⟨hk.1, by omega⟩)
        have jC : V.LiesS (fun k => (k < Bd ∨ w.heap.size + 2 ≤ k) ∧ k < W4.heap.size) W4 U C := (kC.kept (fun k hk => hf.1.block k hk.2 (by omega))).up (fun k hk => ⟨hk.1, by omega⟩)
        have hb4 : Below w.heap.size w W4 := hb3.trans (hf.1.below (by omega) (by have := hb3.size; omega))
        clear hV kt ku kA kC hf hb3
        simp only [B.putAll, Nat.reduceAdd, Nat.reduceEqDiff, if_true, if_false]
        simp only [Act.put, List.setIfInBounds_toArray, List.set_cons_zero, List.set_cons_succ]
        rw [v10]
        have hl := run_loadVar_mid (P := Tryd.prog) W4 (w.heap.size + 1) 0 31 (#[.string tb, .bool sh, .int .i64 T.k, .bool T.b, .int .i64 T.n, .string T.s, .slice A.pa T.m A.pc, .slice A.na T.q A.nc, .int .i64 U.k, .bool U.b, .int .i64 U.n, .string U.s, .slice C.pa U.m C.pc, .slice C.na U.q C.nc, .bool was, .bool is] : Array Value).toList _ (fun j v hv => by rw [Nat.zero_add, cell_of_row W4 _ j _ 31 _ v11]; simpa using hv) Tryd.underlying31 rfl (by simpa using info31)
        change wpListIn _ _ _ _ _ [_] _ _
        gi_wp2
        go_wp2
        refine bodyPost_ret (v := .tuple #[.agg #[.string tb, .bool sh, .int .i64 T.k, .bool T.b, .int .i64 T.n, .string T.s, .slice A.pa T.m A.pc, .slice A.na T.q A.nc, .int .i64 U.k, .bool U.b, .int .i64 U.n, .string U.s, .slice C.pa U.m C.pc, .slice C.na U.q C.nc, .bool was, .bool is], .bool (c2 == 0)]) ?_ rfl ⟨A, C, rfl, jA, jC, hb4⟩
        rw [results_cell_tmp Tryd.results7]
        simp [asAddr, hl]
    · have h1f : (c1 == 0) = false := by simpa using h1
      obtain rfl : false = O := by rw [← HO2.out]; simp [h1]
      clear HO2
      refine B.any_storeIn (m := 0) (by kernel_rfl) 12 (by exact Nat.le_of_ble_eq_true rfl) (fun i => if i = 11 then 1000 else i + 12) (mixF 11 (fun W => W.heap[(w.heap.size + 1)]? = some (.cells #[.string tb, .bool sh, .int .i64 T.k, .bool T.b, .int .i64 T.n, .string T.s, .slice A.pa T.m A.pc, .slice A.na T.q A.nc, .int .i64 U.k, .bool U.b, .int .i64 U.n, .string U.s, .slice C.pa U.m C.pc, .slice C.na U.q C.nc, .bool was, .bool is] 31 (0, 0))) [.agg #[.string tb, .bool sh, .int .i64 T.k, .bool T.b, .int .i64 T.n, .string T.s, .slice A.pa T.m A.pc, .slice A.na T.q A.nc, .int .i64 U.k, .bool U.b, .int .i64 U.n, .string U.s, .slice C.pa U.m C.pc, .slice C.na U.q C.nc, .bool was, .bool is], .pointer (some ⟨w.heap.size, 2, none⟩), .agg #[.int .i64 T.k, .bool T.b, .int .i64 T.n, .string T.s, .slice A.pa T.m A.pc, .slice A.na T.q A.nc], .int .i64 c1, .bool false, .bool false, undef, undef, undef, undef, .bool false, undef]) (Fz (w.heap.size + 1) (some (.cells #[.string ⟨#[]⟩, .bool false, .int .i64 0, .bool false, .int .i64 0, .string ⟨#[]⟩, .slice none 0 0, .slice none 0 0, .int .i64 0, .bool false, .int .i64 0, .string ⟨#[]⟩, .slice none 0 0, .slice none 0 0, .bool false, .bool false] 31 (0, 0))) (some (.cells #[.string tb, .bool sh, .int .i64 T.k, .bool T.b, .int .i64 T.n, .string T.s, .slice A.pa T.m A.pc, .slice A.na T.q A.nc, .int .i64 U.k, .bool U.b, .int .i64 U.n, .string U.s, .slice C.pa U.m C.pc, .slice C.na U.q C.nc, .bool was, .bool is] 31 (0, 0)))) (Fz.drew _ _ _ _) (Fz.refl _ _ _) (fun _ _ _ => Fz.trans) (by kernel_rfl) (by kernel_rfl) (by kernel_rfl) (mixF_later _ _ _ _ (fun _ _ h hf => hf.2.1 h)) ?step ?post
      case step =>
        intro iq hiq a W hrest hb hk
        have hp1 : a.eval (.tmp 1) = .pointer (some ⟨w.heap.size, 0, none⟩) := (hrest 1 (by intro iq2 hiq2; (repeat' split) <;> omega)).trans rfl
        have fp1 := B.ev hp1
        have hx1 : W.heap[w.heap.size]? = some (.cells #[.string tb, .bool sh, .int .i64 T.k, .bool T.b, .int .i64 T.n, .string T.s, .slice A.pa T.m A.pc, .slice A.na T.q A.nc, .int .i64 U.k, .bool U.b, .int .i64 U.n, .string U.s, .slice C.pa U.m C.pc, .slice C.na U.q C.nc, .bool was, .bool is] 31 (0, 0)) := (hb.1.block _ (lt_of_row q3) (by omega)).trans q3
        have hp2 : a.eval (.tmp 2) = .pointer (some ⟨(w.heap.size + 1), 0, none⟩) := (hrest 2 (by intro iq2 hiq2; (repeat' split) <;> omega)).trans rfl
        have fp2 := B.ev hp2
        clear hrest
        obtain rfl | rfl | rfl | rfl | rfl | rfl | rfl | rfl | rfl | rfl | rfl | rfl : iq = 0 ∨ iq = 1 ∨ iq = 2 ∨ iq = 3 ∨ iq = 4 ∨ iq = 5 ∨ iq = 6 ∨ iq = 7 ∨ iq = 8 ∨ iq = 9 ∨ iq = 10 ∨ iq = 11 := by omega
        · clear hiq
          have hc0 := cell_of_row W w.heap.size 0 _ _ _ hx1
          have hc1 := cell_of_row W w.heap.size 1 _ _ _ hx1
          have hc2 := cell_of_row W w.heap.size 2 _ _ _ hx1
          have hc3 := cell_of_row W w.heap.size 3 _ _ _ hx1
          have hc4 := cell_of_row W w.heap.size 4 _ _ _ hx1
          have hc5 := cell_of_row W w.heap.size 5 _ _ _ hx1
          have hc6 := cell_of_row W w.heap.size 6 _ _ _ hx1
          have hc7 := cell_of_row W w.heap.size 7 _ _ _ hx1
          have hc8 := cell_of_row W w.heap.size 8 _ _ _ hx1
          have hc9 := cell_of_row W w.heap.size 9 _ _ _ hx1
          have hc10 := cell_of_row W w.heap.size 10 _ _ _ hx1
          have hc11 := cell_of_row W w.heap.size 11 _ _ _ hx1
          have hc12 := cell_of_row W w.heap.size 12 _ _ _ hx1
          have hc13 := cell_of_row W w.heap.size 13 _ _ _ hx1
          have hc14 := cell_of_row W w.heap.size 14 _ _ _ hx1
          have hc15 := cell_of_row W w.heap.size 15 _ _ _ hx1
          clear hk
          refine ⟨_, rfl, Or.inl ⟨rfl, by exact Nat.le_of_ble_eq_true rfl⟩, Or.inl ⟨B.wanted_none rfl, B.wpIn_value (v := .agg #[.string tb, .bool sh, .int .i64 T.k, .bool T.b, .int .i64 T.n, .string T.s, .slice A.pa T.m A.pc, .slice A.na T.q A.nc, .int .i64 U.k, .bool U.b, .int .i64 U.n, .string U.s, .slice C.pa U.m C.pc, .slice C.na U.q C.nc, .bool was, .bool is]) (w' := W) ?_ ⟨_, rfl, Fz.refl _ _ _ _, rfl, fun h => (by cases h)⟩⟩⟩
          go_simp
        · clear hiq
          clear hk
          refine ⟨_, rfl, Or.inl ⟨rfl, by exact Nat.le_of_ble_eq_true rfl⟩, Or.inl ⟨B.wanted_none rfl, B.wpIn_value (v := .pointer (some ⟨w.heap.size, 2, none⟩)) (w' := W) ?_ ⟨_, rfl, Fz.refl _ _ _ _, rfl, fun h => (by cases h)⟩⟩⟩
          go_simp
        · clear hiq
          have e1 : a.eval (.tmp 13) = .pointer (some ⟨w.heap.size, 2, none⟩) := hk 1 (B.mem_of (by kernel_rfl))
          have f1 := B.ev e1
          have hc2 := cell_of_row W w.heap.size 2 _ _ _ hx1
          have hc3 := cell_of_row W w.heap.size 3 _ _ _ hx1
          have hc4 := cell_of_row W w.heap.size 4 _ _ _ hx1
          have hc5 := cell_of_row W w.heap.size 5 _ _ _ hx1
          have hc6 := cell_of_row W w.heap.size 6 _ _ _ hx1
          have hc7 := cell_of_row W w.heap.size 7 _ _ _ hx1
          clear hk
          refine ⟨_, rfl, Or.inl ⟨rfl, by exact Nat.le_of_ble_eq_true rfl⟩, Or.inl ⟨B.wanted_none rfl, B.wpIn_value (v := .agg #[.int .i64 T.k, .bool T.b, .int .i64 T.n, .string T.s, .slice A.pa T.m A.pc, .slice A.na T.q A.nc]) (w' := W) ?_ ⟨_, rfl, Fz.refl _ _ _ _, rfl, fun h => (by cases h)⟩⟩⟩
          go_simp
        · clear hiq
          have e2 : a.eval (.tmp 14) = .agg #[.int .i64 T.k, .bool T.b, .int .i64 T.n, .string T.s, .slice A.pa T.m A.pc, .slice A.na T.q A.nc] := hk 2 (B.mem_of (by kernel_rfl))
          have f2 := B.ev e2
          clear hk
          refine ⟨_, rfl, Or.inl ⟨rfl, by exact Nat.le_of_ble_eq_true rfl⟩, Or.inl ⟨B.wanted_none rfl, B.wpIn_enter (f := 22) (args := #[.agg #[.int .i64 T.k, .bool T.b, .int .i64 T.n, .string T.s, .slice A.pa T.m A.pc, .slice A.na T.q A.nc]]) ?_ ((kt W hb).mono ?_)⟩⟩
          · go_simp
          · rintro e w2 ⟨rfl, hb2⟩
            exact ⟨_, rfl, _, rfl, Fz.of hb2 (by have := hb.1.size; omega), rfl, fun h => (by cases h)⟩
        · clear hiq
          have e3 : a.eval (.tmp 15) = .int .i64 c1 := hk 3 (B.mem_of (by kernel_rfl))
          have f3 := B.ev e3
          clear hk
          refine ⟨_, rfl, Or.inl ⟨rfl, by exact Nat.le_of_ble_eq_true rfl⟩, Or.inl ⟨B.wanted_none rfl, B.wpIn_value (v := .bool false) (w' := W) ?_ ⟨_, rfl, Fz.refl _ _ _ _, rfl, fun h => (by cases h)⟩⟩⟩
          go_simp
        · clear hiq
          have e4 : a.eval (.tmp 16) = .bool false := hk 4 (B.mem_of (by kernel_rfl))
          have f4 := B.ev e4
          clear hk
          refine ⟨_, rfl, Or.inl ⟨rfl, by exact Nat.le_of_ble_eq_true rfl⟩, Or.inl ⟨B.wanted_none rfl, B.wpIn_value (v := .bool false) (w' := W) ?_ ⟨_, rfl, Fz.refl _ _ _ _, rfl, fun h => (by cases h)⟩⟩⟩
          go_simp
        · clear hiq
          have e5 : a.eval (.tmp 17) = .bool false := hk 5 (B.mem_of (by kernel_rfl))
          have f5 := B.ev e5
          exact ⟨_, rfl, Or.inl ⟨rfl, by exact Nat.le_of_ble_eq_true rfl⟩, Or.inr ⟨B.unwanted_of (k := 5) (b := true) (c := false) rfl rfl e5 rfl, rfl⟩⟩
        · clear hiq
          have e5 : a.eval (.tmp 17) = .bool false := hk 5 (B.mem_of (by kernel_rfl))
          have f5 := B.ev e5
          exact ⟨_, rfl, Or.inl ⟨rfl, by exact Nat.le_of_ble_eq_true rfl⟩, Or.inr ⟨B.unwanted_of (k := 5) (b := true) (c := false) rfl rfl e5 rfl, rfl⟩⟩
        · clear hiq
          have e5 : a.eval (.tmp 17) = .bool false := hk 5 (B.mem_of (by kernel_rfl))
          have f5 := B.ev e5
          exact ⟨_, rfl, Or.inl ⟨rfl, by exact Nat.le_of_ble_eq_true rfl⟩, Or.inr ⟨B.unwanted_of (k := 5) (b := true) (c := false) rfl rfl e5 rfl, rfl⟩⟩
        · clear hiq
          have e5 : a.eval (.tmp 17) = .bool false := hk 5 (B.mem_of (by kernel_rfl))
          have f5 := B.ev e5
          exact ⟨_, rfl, Or.inl ⟨rfl, by exact Nat.le_of_ble_eq_true rfl⟩, Or.inr ⟨B.unwanted_of (k := 5) (b := true) (c := false) rfl rfl e5 rfl, rfl⟩⟩
        · clear hiq
          have e5 : a.eval (.tmp 17) = .bool false := hk 5 (B.mem_of (by kernel_rfl))
          have f5 := B.ev e5
          clear hk
          refine ⟨_, rfl, Or.inl ⟨rfl, by exact Nat.le_of_ble_eq_true rfl⟩, Or.inl ⟨B.wanted_none rfl, B.wpIn_value (v := .bool false) (w' := W) ?_ ⟨_, rfl, Fz.refl _ _ _ _, rfl, fun h => (by cases h)⟩⟩⟩
          go_simp
        · clear hiq
          have e0 : a.eval (.tmp 12) = .agg #[.string tb, .bool sh, .int .i64 T.k, .bool T.b, .int .i64 T.n, .string T.s, .slice A.pa T.m A.pc, .slice A.na T.q A.nc, .int .i64 U.k, .bool U.b, .int .i64 U.n, .string U.s, .slice C.pa U.m C.pc, .slice C.na U.q C.nc, .bool was, .bool is] := hk 0 (B.mem_of (by kernel_rfl))
          have f0 := B.ev e0
          clear hk
          have hrow : ∃ cs, W.heap[(w.heap.size + 1)]? = some (.cells cs 31 (0, 0)) ∧ cs.size = 16 := by rcases hb.2.2 p3 with h | h <;> exact ⟨_, h, rfl⟩
          obtain ⟨cs, hcs, hcn⟩ := hrow
          refine ⟨_, rfl, Or.inr ⟨rfl, by exact Nat.le_of_ble_eq_true rfl⟩, Or.inl ⟨B.wanted_none rfl, wpIn_store 31 (.tmp 2) (.tmp 12) rfl (w.heap.size + 1) 0 #[.string tb, .bool sh, .int .i64 T.k, .bool T.b, .int .i64 T.n, .string T.s, .slice A.pa T.m A.pc, .slice A.na T.q A.nc, .int .i64 U.k, .bool U.b, .int .i64 U.n, .string U.s, .slice C.pa U.m C.pc, .slice C.na U.q C.nc, .bool was, .bool is] hp2 e0 (there_of_row hcs (by rw [hcn]; exact Nat.le_refl _)) info31 (by simp [Value.oneCell']) ⟨_, rfl, ?_, ?_, fun _ => rfl⟩⟩⟩
          · exact ⟨only_setCells _ _ _ (V.Only.refl _ _), fun _ => put_row (W := W) #[.string tb, .bool sh, .int .i64 T.k, .bool T.b, .int .i64 T.n, .string T.s, .slice A.pa T.m A.pc, .slice A.na T.q A.nc, .int .i64 U.k, .bool U.b, .int .i64 U.n, .string U.s, .slice C.pa U.m C.pc, .slice C.na U.q C.nc, .bool was, .bool is] hcs (by rw [hcn]; rfl), fun _ => Or.inr (put_row (W := W) #[.string tb, .bool sh, .int .i64 T.k, .bool T.b, .int .i64 T.n, .string T.s, .slice A.pa T.m A.pc, .slice A.na T.q A.nc, .int .i64 U.k, .bool U.b, .int .i64 U.n, .string U.s, .slice C.pa U.m C.pc, .slice C.na U.q C.nc, .bool was, .bool is] hcs (by rw [hcn]; rfl))⟩
          · exact put_row (W := W) #[.string tb, .bool sh, .int .i64 T.k, .bool T.b, .int .i64 T.n, .string T.s, .slice A.pa T.m A.pc, .slice A.na T.q A.nc, .int .i64 U.k, .bool U.b, .int .i64 U.n, .string U.s, .slice C.pa U.m C.pc, .slice C.na U.q C.nc, .bool was, .bool is] hcs (by rw [hcn]; rfl)
      case post =>
        intro V2 W4 hf hV
        have v10 : V2 10 = .bool false := hV 10 (by omega)
        have v11 : W4.heap[(w.heap.size + 1)]? = some (.cells #[.string tb, .bool sh, .int .i64 T.k, .bool T.b, .int .i64 T.n, .string T.s, .slice A.pa T.m A.pc, .slice A.na T.q A.nc, .int .i64 U.k, .bool U.b, .int .i64 U.n, .string U.s, .slice C.pa U.m C.pc, .slice C.na U.q C.nc, .bool was, .bool is] 31 (0, 0)) := hV 11 (by omega)
        have hsz4 := hf.1.size
        have jA : V.LiesS (fun k => (k < Bd ∨ w.heap.size + 2 ≤ k) ∧ k < W4.heap.size) W4 T A := (kA.kept (fun k hk => hf.1.block k hk.2 (by omega))).up (fun k hk => ⟨hk.1, by omega⟩)
        have jC : V.LiesS (fun k => (k < Bd ∨ w.heap.size + 2 ≤ k) ∧ k < W4.heap.size) W4 U C := (kC.kept (fun k hk => hf.1.block k hk.2 (by omega))).up (fun k hk => ⟨hk.1, by omega⟩)
        have hb4 : Below w.heap.size w W4 := hb3.trans (hf.1.below (by omega) (by have := hb3.size; omega))
        clear hV kt ku kA kC hf hb3
        simp only [B.putAll, Nat.reduceAdd, Nat.reduceEqDiff, if_true, if_false]
        simp only [Act.put, List.setIfInBounds_toArray, List.set_cons_zero, List.set_cons_succ]
        rw [v10]
        have hl := run_loadVar_mid (P := Tryd.prog) W4 (w.heap.size + 1) 0 31 (#[.string tb, .bool sh, .int .i64 T.k, .bool T.b, .int .i64 T.n, .string T.s, .slice A.pa T.m A.pc, .slice A.na T.q A.nc, .int .i64 U.k, .bool U.b, .int .i64 U.n, .string U.s, .slice C.pa U.m C.pc, .slice C.na U.q C.nc, .bool was, .bool is] : Array Value).toList _ (fun j v hv => by rw [Nat.zero_add, cell_of_row W4 _ j _ 31 _ v11]; simpa using hv) Tryd.underlying31 rfl (by simpa using info31)
        change wpListIn _ _ _ _ _ [_] _ _
        gi_wp2
        go_wp2
        refine bodyPost_ret (v := .tuple #[.agg #[.string tb, .bool sh, .int .i64 T.k, .bool T.b, .int .i64 T.n, .string T.s, .slice A.pa T.m A.pc, .slice A.na T.q A.nc, .int .i64 U.k, .bool U.b, .int .i64 U.n, .string U.s, .slice C.pa U.m C.pc, .slice C.na U.q C.nc, .bool was, .bool is], .bool false]) ?_ rfl ⟨A, C, rfl, jA, jC, hb4⟩
        rw [results_cell_tmp Tryd.results7]
        simp [asAddr, hl]
end Go.Proofs.YtfcenidepkjdcaaDoor
