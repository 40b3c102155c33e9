/- What a look sees (ranges.sight's function), and whether a touch hits a look (ranges.Hits): of documents that may be. Hits where the touch is of the shape, or of nothing. Hits of a document that came. -/
import Derived.Test.YtfcenidepkjdcaaDoorXan
import Derived.Test.YtfcenidepkjdcaaDoorXap
namespace Go.Proofs.YtfcenidepkjdcaaDoor
open Go.RowKit Go.Shelf
attribute [local go_sem] Oper.semAt_some
def LyV (t : V.Tr) (v : Value) (W : World) : Prop := ∃ A, v = t.val A ∧ V.Lies W.heap.size W t A
theorem LyV.later {t : V.Tr} : ∀ v W W', LyV t v W → Below W.heap.size W W' → LyV t v W' := fun _ _ _ ⟨A, h1, h2⟩ hb => ⟨A, h1, V.LiesS.up (fun _ hk => Nat.lt_of_lt_of_le hk hb.size) (h2.later hb)⟩
def keyB (t : V.Tr) (fl : ByteArray) : ByteArray := ⟨(V.keyT (getT t fl)).toArray⟩
def seeB (fl lo hi : ByteArray) (t : V.Tr) : Bool := fl.toList.isEmpty || V.hasB lo hi (keyB t fl)
set_option maxRecDepth 100000 in
set_option maxHeartbeats 8000000 in
theorem some_seen {Bd z : Nat} {w : World} (tb fl lo hi : ByteArray) (t : V.Tr) (x : V.Ad) (hz : w.heap[z]? = some (.cells (rdA tb fl lo hi) 25 (0, 0))) (hL : V.Lies Bd w t x) (hB : Bd ≤ w.heap.size) (hg : V.Gm w) (hG : Good t) :
    Calls Tryd.prog 43 #[t.val x, .pointer (some ⟨z, 0, none⟩)] w fun e w' => e = .returned (.bool (V.hasB lo hi (keyB t fl))) ∧ Below w.heap.size w w' := by
  obtain ⟨w1, hw1⟩ : ∃ w1, w.alloc (.cells #[.int .i64 t.k, .bool t.b, .int .i64 t.n, .string t.s, .slice x.pa t.m x.pc, .slice x.na t.q x.nc] 29) = w1 := ⟨_, rfl⟩
  have hb1 : Below w.heap.size w w1 := by rw [← hw1]; exact (Below.refl _ w).alloc (Nat.le_refl _) _
  have r0 : w1.heap[w.heap.size]? = some (.cells #[.int .i64 t.k, .bool t.b, .int .i64 t.n, .string t.s, .slice x.pa t.m x.pc, .slice x.na t.q x.nc] 29 (0, 0)) := by rw [← hw1]; exact heap_alloc_new _ _
  have rz : w1.heap[z]? = some (.cells #[.string tb, .string fl, .string lo, .string hi] 25 (0, 0)) := (hb1.block _ (lt_of_row hz)).trans hz
  have HW : Hid (w.alloc (.cells #[.int .i64 t.k, .bool t.b, .int .i64 t.n, .string t.s, .slice x.pa t.m x.pc, .slice x.na t.q x.nc] 29) = w1) := hw1
  have hget : ∀ W, Below w1.heap.size w1 W → Calls Tryd.prog 45 #[.agg #[.int .i64 t.k, .bool t.b, .int .i64 t.n, .string t.s, .slice x.pa t.m x.pc, .slice x.na t.q x.nc], .string fl] W fun e w' => (∃ u, e = .returned u ∧ LyV (getT t fl) u w') ∧ Below W.heap.size W w' := fun W hb => by
    have hbW : Below w.heap.size w W := hb1.trans (hb.mono hb1.size)
    refine (get_any t x fl (hL.later (hbW.mono hB)) (Nat.le_trans hB hbW.size) hG.q).mono ?_
    rintro e w' ⟨A, rfl, hA, hb'⟩
    exact ⟨⟨_, rfl, A, rfl, hA.up (fun k hk => hk.2)⟩, hb'⟩
  have hof : ∀ W A, Below w1.heap.size w1 W → V.Lies W.heap.size W (getT t fl) A → Calls Tryd.prog 39 #[(getT t fl).val A] W fun e w' => e = .returned (.string (keyB t fl)) ∧ Below W.heap.size W w' := fun W A hb hl =>
    of_kok (hG.get fl) (hg.later (hb1.trans (hb.mono hb1.size)) hg.pos) hl (Nat.le_refl _)
  have hhas := fun W => V.has_any lo hi (keyB t fl) W
  obtain ⟨K, hK⟩ : ∃ K, keyB t fl = K := ⟨_, rfl⟩
  rw [hK] at hof hhas ⊢
  clear hK
  obtain ⟨G, hG'⟩ : ∃ G, getT t fl = G := ⟨_, rfl⟩
  rw [hG'] at hget hof
  obtain ⟨H, hH⟩ : ∃ H, V.hasB lo hi K = H := ⟨_, rfl⟩
  rw [hH] at hhas ⊢
  clear hw1 hL hG hG' hH hz
  show Calls Tryd.prog 43 #[.agg #[.int .i64 t.k, .bool t.b, .int .i64 t.n, .string t.s, .slice x.pa t.m x.pc, .slice x.na t.q x.nc], .pointer (some ⟨z, 0, none⟩)] w _
  go_enter Tryd.func43, Tryd.ntmps43
  go_wp2_with fail
  rw [HW.out]
  refine B.any_tail (by kernel_rfl) 8 (by exact Nat.le_of_ble_eq_true rfl) (fun i => i + 4) (B.mixR [(5, LyV G)] [.pointer (some ⟨z, 2, none⟩), .agg #[.string lo, .string hi], .agg #[.int .i64 t.k, .bool t.b, .int .i64 t.n, .string t.s, .slice x.pa t.m x.pc, .slice x.na t.q x.nc], .pointer (some ⟨z, 1, none⟩), .string fl, undef, .string K, .bool H]) (by kernel_rfl) (by kernel_rfl) (by kernel_rfl) (by kernel_rfl) (B.mixR_later _ _ (B.stab_cons (LyV.later) (B.stab_nil))) ?step ?post
  case step =>
    intro iq hiq a W hrest hb hk
    have hp1 : a.eval (.tmp 1) = .pointer (some ⟨z, 0, none⟩) := (hrest 1 (by intro iq2 hiq2; (repeat' split) <;> omega)).trans rfl
    have fp1 := B.ev hp1
    have hx1 : W.heap[z]? = some (.cells #[.string tb, .string fl, .string lo, .string hi] 25 (0, 0)) := (hb.block _ (lt_of_row rz)).trans rz
    have hp2 : a.eval (.tmp 2) = .pointer (some ⟨w.heap.size, 0, none⟩) := (hrest 2 (by intro iq2 hiq2; (repeat' split) <;> omega)).trans rfl
    have fp2 := B.ev hp2
    have hx2 : W.heap[w.heap.size]? = some (.cells #[.int .i64 t.k, .bool t.b, .int .i64 t.n, .string t.s, .slice x.pa t.m x.pc, .slice x.na t.q x.nc] 29 (0, 0)) := (hb.block _ (lt_of_row r0)).trans r0
    clear hrest
    obtain rfl | rfl | rfl | rfl | rfl | rfl | rfl | rfl : iq = 0 ∨ iq = 1 ∨ iq = 2 ∨ iq = 3 ∨ iq = 4 ∨ iq = 5 ∨ iq = 6 ∨ iq = 7 := by omega
    · clear hiq
      clear hk
      refine ⟨_, rfl, rfl, rfl, B.wp_value (v := .pointer (some ⟨z, 2, none⟩)) (w' := W) ?_ ⟨_, rfl, Below.refl _ _, rfl⟩⟩
      go_simp
    · clear hiq
      have e0 : a.eval (.tmp 4) = .pointer (some ⟨z, 2, none⟩) := hk 0 (B.mem_of (by kernel_rfl))
      have f0 := B.ev e0
      have hc2 := cell_of_row W z 2 _ _ _ hx1
      have hc3 := cell_of_row W z 3 _ _ _ hx1
      clear hk
      refine ⟨_, rfl, rfl, rfl, B.wp_value (v := .agg #[.string lo, .string hi]) (w' := W) ?_ ⟨_, rfl, Below.refl _ _, rfl⟩⟩
      go_simp
    · clear hiq
      have hc0 := cell_of_row W w.heap.size 0 _ _ _ hx2
      have hc1 := cell_of_row W w.heap.size 1 _ _ _ hx2
      have hc2 := cell_of_row W w.heap.size 2 _ _ _ hx2
      have hc3 := cell_of_row W w.heap.size 3 _ _ _ hx2
      have hc4 := cell_of_row W w.heap.size 4 _ _ _ hx2
      have hc5 := cell_of_row W w.heap.size 5 _ _ _ hx2
      clear hk
      refine ⟨_, rfl, rfl, rfl, B.wp_value (v := .agg #[.int .i64 t.k, .bool t.b, .int .i64 t.n, .string t.s, .slice x.pa t.m x.pc, .slice x.na t.q x.nc]) (w' := W) ?_ ⟨_, rfl, Below.refl _ _, rfl⟩⟩
      go_simp
    · clear hiq
      clear hk
      refine ⟨_, rfl, rfl, rfl, B.wp_value (v := .pointer (some ⟨z, 1, none⟩)) (w' := W) ?_ ⟨_, rfl, Below.refl _ _, rfl⟩⟩
      go_simp
    · clear hiq
      have e3 : a.eval (.tmp 7) = .pointer (some ⟨z, 1, none⟩) := hk 3 (B.mem_of (by kernel_rfl))
      have f3 := B.ev e3
      have hc1 := cell_of_row W z 1 _ _ _ hx1
      clear hk
      refine ⟨_, rfl, rfl, rfl, B.wp_value (v := .string fl) (w' := W) ?_ ⟨_, rfl, Below.refl _ _, rfl⟩⟩
      go_simp
    · clear hiq
      have e2 : a.eval (.tmp 6) = .agg #[.int .i64 t.k, .bool t.b, .int .i64 t.n, .string t.s, .slice x.pa t.m x.pc, .slice x.na t.q x.nc] := hk 2 (B.mem_of (by kernel_rfl))
      have f2 := B.ev e2
      have e4 : a.eval (.tmp 8) = .string fl := hk 4 (B.mem_of (by kernel_rfl))
      have f4 := B.ev e4
      clear hk
      refine ⟨_, rfl, rfl, rfl, B.wp_enter (f := 45) (args := #[.agg #[.int .i64 t.k, .bool t.b, .int .i64 t.n, .string t.s, .slice x.pa t.m x.pc, .slice x.na t.q x.nc], .string fl]) ?_ ((hget W hb).mono ?_)⟩
      · go_simp
      · rintro e w2 ⟨⟨u, rfl, hu⟩, hb2⟩
        exact ⟨_, rfl, _, rfl, hb2, hu⟩
    · clear hiq
      obtain ⟨A5, e5, hA5⟩ := show LyV G (a.eval (.tmp 9)) W from hk 5 (B.mem_of (by kernel_rfl))
      have f5 := B.ev e5
      clear hk
      refine ⟨_, rfl, rfl, rfl, B.wp_enter (f := 39) (args := #[G.val A5]) ?_ ((hof W A5 hb hA5).mono ?_)⟩
      · go_simp
      · rintro e w2 ⟨rfl, hb2⟩
        exact ⟨_, rfl, _, rfl, hb2, rfl⟩
    · clear hiq
      have e1 : a.eval (.tmp 5) = .agg #[.string lo, .string hi] := hk 1 (B.mem_of (by kernel_rfl))
      have f1 := B.ev e1
      have e6 : a.eval (.tmp 10) = .string K := hk 6 (B.mem_of (by kernel_rfl))
      have f6 := B.ev e6
      clear hk
      refine ⟨_, rfl, rfl, rfl, B.wp_enter (f := 44) (args := #[.agg #[.string lo, .string hi], .string K]) ?_ ((hhas W).mono ?_)⟩
      · go_simp
      · rintro e w2 ⟨rfl, hb2⟩
        exact ⟨_, rfl, _, rfl, hb2, rfl⟩
  case post =>
    intro V W hbW hV
    have e7 : V 7 = .bool H := hV 7 (by omega)
    have hBW : Below w.heap.size w W := hb1.trans (hbW.mono hb1.size)
    clear hV hget hof hhas
    simp only [B.putAll, Nat.reduceAdd]
    rw [e7]
    simp only [Act.put, List.setIfInBounds_toArray, List.set_cons_zero, List.set_cons_succ]
    go_wp2
    go_ret
    exact ⟨rfl, hBW⟩
def hitB (tb fl lo hi tt : ByteArray) (sh : Bool) (t u : V.Tr) (was is : Bool) : Bool := (tb.toList == tt.toList) && (sh || (was && seeB fl lo hi t) || (is && seeB fl lo hi u))
end Go.Proofs.YtfcenidepkjdcaaDoor
namespace Go.Proofs.YtfcenidepkjdcaaDoor
open Go.RowKit Go.Shelf
attribute [local go_sem] Oper.semAt_some
set_option maxRecDepth 100000 in
set_option maxHeartbeats 8000000 in
theorem hit_all_shape {w : World} (tb fl lo hi tt : ByteArray) (was is : Bool) (t : V.Tr) (x : V.Ad) (u : V.Tr) (y : V.Ad) (htt : (tb.toList == tt.toList) = true) (hfl : fl.toList.isEmpty = true) :
    Calls Tryd.prog 9 #[.agg #[.string tb, .string fl, .string lo, .string hi], .agg #[.string tt, .bool true, .int .i64 t.k, .bool t.b, .int .i64 t.n, .string t.s, .slice x.pa t.m x.pc, .slice x.na t.q x.nc, .int .i64 u.k, .bool u.b, .int .i64 u.n, .string u.s, .slice y.pa u.m y.pc, .slice y.na u.q y.nc, .bool was, .bool is]] w fun e w' => e = .returned (.bool true) ∧ Below w.heap.size w w' := by
  obtain ⟨w1, hw1⟩ : ∃ w1, (w.alloc (.cells #[.string tb, .string fl, .string lo, .string hi] 25)).alloc (.cells #[.string tt, .bool true, .int .i64 t.k, .bool t.b, .int .i64 t.n, .string t.s, .slice x.pa t.m x.pc, .slice x.na t.q x.nc, .int .i64 u.k, .bool u.b, .int .i64 u.n, .string u.s, .slice y.pa u.m y.pc, .slice y.na u.q y.nc, .bool was, .bool is] 31) = w1 := ⟨_, rfl⟩
  have hb1 : Below w.heap.size w w1 := by rw [← hw1]; exact ((Below.refl _ w).alloc (Nat.le_refl _) _).alloc (by simp) _
  have r1 : w1.heap[w.heap.size + 1]? = some (.cells #[.string tt, .bool true, .int .i64 t.k, .bool t.b, .int .i64 t.n, .string t.s, .slice x.pa t.m x.pc, .slice x.na t.q x.nc, .int .i64 u.k, .bool u.b, .int .i64 u.n, .string u.s, .slice y.pa u.m y.pc, .slice y.na u.q y.nc, .bool was, .bool is] 31 (0, 0)) := by
    rw [← hw1]
    have := heap_alloc_new (w.alloc (.cells #[.string tb, .string fl, .string lo, .string hi] 25)) (.cells #[.string tt, .bool true, .int .i64 t.k, .bool t.b, .int .i64 t.n, .string t.s, .slice x.pa t.m x.pc, .slice x.na t.q x.nc, .int .i64 u.k, .bool u.b, .int .i64 u.n, .string u.s, .slice y.pa u.m y.pc, .slice y.na u.q y.nc, .bool was, .bool is] 31)
    simpa using this
  have HW : Hid ((w.alloc (.cells #[.string tb, .string fl, .string lo, .string hi] 25)).alloc (.cells #[.string tt, .bool true, .int .i64 t.k, .bool t.b, .int .i64 t.n, .string t.s, .slice x.pa t.m x.pc, .slice x.na t.q x.nc, .int .i64 u.k, .bool u.b, .int .i64 u.n, .string u.s, .slice y.pa u.m y.pc, .slice y.na u.q y.nc, .bool was, .bool is] 31) = w1) := hw1
  clear hw1
  have hs := fun W => sight_yes tb fl lo hi W hfl
  have kt := fun W => all_seen t x W
  have ku := fun W => all_seen u y W
  unfold V.Tr.val at kt ku
  unfold rdA at hs
  clear hfl
  go_enter Tryd.func9, Tryd.ntmps9
  go_wp2_with fail
  rw [HW.out]
  refine (hs w1).mono ?_
  rintro e w2 ⟨rfl, hb2⟩
  have r2 := (hb2.block _ (lt_of_row r1)).trans r1
  have hbb : Below w.heap.size w w2 := hb1.trans (hb2.mono hb1.size)
  clear hb2 r1 hb1 hs HW
  have c0 := cell_of_row w2 _ 0 _ _ _ r2
  have c1 := cell_of_row w2 _ 1 _ _ _ r2
  have c2 := cell_of_row w2 _ 2 _ _ _ r2
  have c3 := cell_of_row w2 _ 3 _ _ _ r2
  have c4 := cell_of_row w2 _ 4 _ _ _ r2
  have c5 := cell_of_row w2 _ 5 _ _ _ r2
  have c6 := cell_of_row w2 _ 6 _ _ _ r2
  have c7 := cell_of_row w2 _ 7 _ _ _ r2
  have c8 := cell_of_row w2 _ 8 _ _ _ r2
  have c9 := cell_of_row w2 _ 9 _ _ _ r2
  have c10 := cell_of_row w2 _ 10 _ _ _ r2
  have c11 := cell_of_row w2 _ 11 _ _ _ r2
  have c12 := cell_of_row w2 _ 12 _ _ _ r2
  have c13 := cell_of_row w2 _ 13 _ _ _ r2
  have c14 := cell_of_row w2 _ 14 _ _ _ r2
  have c15 := cell_of_row w2 _ 15 _ _ _ r2
  go_wp2_with fail
  go_ret
  exact ⟨rfl, hbb⟩
set_option maxRecDepth 100000 in
set_option maxHeartbeats 8000000 in
theorem hit_all_none {w : World} (tb fl lo hi tt : ByteArray) (t : V.Tr) (x : V.Ad) (u : V.Tr) (y : V.Ad) (htt : (tb.toList == tt.toList) = true) (hfl : fl.toList.isEmpty = true) :
    Calls Tryd.prog 9 #[.agg #[.string tb, .string fl, .string lo, .string hi], .agg #[.string tt, .bool false, .int .i64 t.k, .bool t.b, .int .i64 t.n, .string t.s, .slice x.pa t.m x.pc, .slice x.na t.q x.nc, .int .i64 u.k, .bool u.b, .int .i64 u.n, .string u.s, .slice y.pa u.m y.pc, .slice y.na u.q y.nc, .bool false, .bool false]] w fun e w' => e = .returned (.bool false) ∧ Below w.heap.size w w' := by
  obtain ⟨w1, hw1⟩ : ∃ w1, (w.alloc (.cells #[.string tb, .string fl, .string lo, .string hi] 25)).alloc (.cells #[.string tt, .bool false, .int .i64 t.k, .bool t.b, .int .i64 t.n, .string t.s, .slice x.pa t.m x.pc, .slice x.na t.q x.nc, .int .i64 u.k, .bool u.b, .int .i64 u.n, .string u.s, .slice y.pa u.m y.pc, .slice y.na u.q y.nc, .bool false, .bool false] 31) = w1 := ⟨_, rfl⟩
  have hb1 : Below w.heap.size w w1 := by rw [← hw1]; exact ((Below.refl _ w).alloc (Nat.le_refl _) _).alloc (by simp) _
  have r1 : w1.heap[w.heap.size + 1]? = some (.cells #[.string tt, .bool false, .int .i64 t.k, .bool t.b, .int .i64 t.n, .string t.s, .slice x.pa t.m x.pc, .slice x.na t.q x.nc, .int .i64 u.k, .bool u.b, .int .i64 u.n, .string u.s, .slice y.pa u.m y.pc, .slice y.na u.q y.nc, .bool false, .bool false] 31 (0, 0)) := by
    rw [← hw1]
    have := heap_alloc_new (w.alloc (.cells #[.string tb, .string fl, .string lo, .string hi] 25)) (.cells #[.string tt, .bool false, .int .i64 t.k, .bool t.b, .int .i64 t.n, .string t.s, .slice x.pa t.m x.pc, .slice x.na t.q x.nc, .int .i64 u.k, .bool u.b, .int .i64 u.n, .string u.s, .slice y.pa u.m y.pc, .slice y.na u.q y.nc, .bool false, .bool false] 31)
    simpa using this
  have HW : Hid ((w.alloc (.cells #[.string tb, .string fl, .string lo, .string hi] 25)).alloc (.cells #[.string tt, .bool false, .int .i64 t.k, .bool t.b, .int .i64 t.n, .string t.s, .slice x.pa t.m x.pc, .slice x.na t.q x.nc, .int .i64 u.k, .bool u.b, .int .i64 u.n, .string u.s, .slice y.pa u.m y.pc, .slice y.na u.q y.nc, .bool false, .bool false] 31) = w1) := hw1
  clear hw1
  have hs := fun W => sight_yes tb fl lo hi W hfl
  have kt := fun W => all_seen t x W
  have ku := fun W => all_seen u y W
  unfold V.Tr.val at kt ku
  unfold rdA at hs
  clear hfl
  go_enter Tryd.func9, Tryd.ntmps9
  go_wp2_with fail
  rw [HW.out]
  refine (hs w1).mono ?_
  rintro e w2 ⟨rfl, hb2⟩
  have r2 := (hb2.block _ (lt_of_row r1)).trans r1
  have hbb : Below w.heap.size w w2 := hb1.trans (hb2.mono hb1.size)
  clear hb2 r1 hb1 hs HW
  have c0 := cell_of_row w2 _ 0 _ _ _ r2
  have c1 := cell_of_row w2 _ 1 _ _ _ r2
  have c2 := cell_of_row w2 _ 2 _ _ _ r2
  have c3 := cell_of_row w2 _ 3 _ _ _ r2
  have c4 := cell_of_row w2 _ 4 _ _ _ r2
  have c5 := cell_of_row w2 _ 5 _ _ _ r2
  have c6 := cell_of_row w2 _ 6 _ _ _ r2
  have c7 := cell_of_row w2 _ 7 _ _ _ r2
  have c8 := cell_of_row w2 _ 8 _ _ _ r2
  have c9 := cell_of_row w2 _ 9 _ _ _ r2
  have c10 := cell_of_row w2 _ 10 _ _ _ r2
  have c11 := cell_of_row w2 _ 11 _ _ _ r2
  have c12 := cell_of_row w2 _ 12 _ _ _ r2
  have c13 := cell_of_row w2 _ 13 _ _ _ r2
  have c14 := cell_of_row w2 _ 14 _ _ _ r2
  have c15 := cell_of_row w2 _ 15 _ _ _ r2
  go_wp2_with fail
  go_ret
  exact ⟨rfl, hbb⟩
end Go.Proofs.YtfcenidepkjdcaaDoor
namespace Go.Proofs.YtfcenidepkjdcaaDoor
open Go.RowKit Go.Shelf
attribute [local go_sem] Oper.semAt_some
set_option maxRecDepth 100000 in
set_option maxHeartbeats 8000000 in
theorem hit_all_new {w : World} (tb fl lo hi tt : ByteArray) (t : V.Tr) (x : V.Ad) (u : V.Tr) (y : V.Ad) (htt : (tb.toList == tt.toList) = true) (hfl : fl.toList.isEmpty = true) :
    Calls Tryd.prog 9 #[.agg #[.string tb, .string fl, .string lo, .string hi], .agg #[.string tt, .bool false, .int .i64 t.k, .bool t.b, .int .i64 t.n, .string t.s, .slice x.pa t.m x.pc, .slice x.na t.q x.nc, .int .i64 u.k, .bool u.b, .int .i64 u.n, .string u.s, .slice y.pa u.m y.pc, .slice y.na u.q y.nc, .bool false, .bool true]] w fun e w' => e = .returned (.bool true) ∧ Below w.heap.size w w' := by
  obtain ⟨w1, hw1⟩ : ∃ w1, (w.alloc (.cells #[.string tb, .string fl, .string lo, .string hi] 25)).alloc (.cells #[.string tt, .bool false, .int .i64 t.k, .bool t.b, .int .i64 t.n, .string t.s, .slice x.pa t.m x.pc, .slice x.na t.q x.nc, .int .i64 u.k, .bool u.b, .int .i64 u.n, .string u.s, .slice y.pa u.m y.pc, .slice y.na u.q y.nc, .bool false, .bool true] 31) = w1 := ⟨_, rfl⟩
  have hb1 : Below w.heap.size w w1 := by rw [← hw1]; exact ((Below.refl _ w).alloc (Nat.le_refl _) _).alloc (by simp) _
  have r1 : w1.heap[w.heap.size + 1]? = some (.cells #[.string tt, .bool false, .int .i64 t.k, .bool t.b, .int .i64 t.n, .string t.s, .slice x.pa t.m x.pc, .slice x.na t.q x.nc, .int .i64 u.k, .bool u.b, .int .i64 u.n, .string u.s, .slice y.pa u.m y.pc, .slice y.na u.q y.nc, .bool false, .bool true] 31 (0, 0)) := by
    rw [← hw1]
    have := heap_alloc_new (w.alloc (.cells #[.string tb, .string fl, .string lo, .string hi] 25)) (.cells #[.string tt, .bool false, .int .i64 t.k, .bool t.b, .int .i64 t.n, .string t.s, .slice x.pa t.m x.pc, .slice x.na t.q x.nc, .int .i64 u.k, .bool u.b, .int .i64 u.n, .string u.s, .slice y.pa u.m y.pc, .slice y.na u.q y.nc, .bool false, .bool true] 31)
    simpa using this
  have HW : Hid ((w.alloc (.cells #[.string tb, .string fl, .string lo, .string hi] 25)).alloc (.cells #[.string tt, .bool false, .int .i64 t.k, .bool t.b, .int .i64 t.n, .string t.s, .slice x.pa t.m x.pc, .slice x.na t.q x.nc, .int .i64 u.k, .bool u.b, .int .i64 u.n, .string u.s, .slice y.pa u.m y.pc, .slice y.na u.q y.nc, .bool false, .bool true] 31) = w1) := hw1
  clear hw1
  have hs := fun W => sight_yes tb fl lo hi W hfl
  have kt := fun W => all_seen t x W
  have ku := fun W => all_seen u y W
  unfold V.Tr.val at kt ku
  unfold rdA at hs
  clear hfl
  go_enter Tryd.func9, Tryd.ntmps9
  go_wp2_with fail
  rw [HW.out]
  refine (hs w1).mono ?_
  rintro e w2 ⟨rfl, hb2⟩
  have r2 := (hb2.block _ (lt_of_row r1)).trans r1
  have hbb : Below w.heap.size w w2 := hb1.trans (hb2.mono hb1.size)
  clear hb2 r1 hb1 hs HW
  have c0 := cell_of_row w2 _ 0 _ _ _ r2
  have c1 := cell_of_row w2 _ 1 _ _ _ r2
  have c2 := cell_of_row w2 _ 2 _ _ _ r2
  have c3 := cell_of_row w2 _ 3 _ _ _ r2
  have c4 := cell_of_row w2 _ 4 _ _ _ r2
  have c5 := cell_of_row w2 _ 5 _ _ _ r2
  have c6 := cell_of_row w2 _ 6 _ _ _ r2
  have c7 := cell_of_row w2 _ 7 _ _ _ r2
  have c8 := cell_of_row w2 _ 8 _ _ _ r2
  have c9 := cell_of_row w2 _ 9 _ _ _ r2
  have c10 := cell_of_row w2 _ 10 _ _ _ r2
  have c11 := cell_of_row w2 _ 11 _ _ _ r2
  have c12 := cell_of_row w2 _ 12 _ _ _ r2
  have c13 := cell_of_row w2 _ 13 _ _ _ r2
  have c14 := cell_of_row w2 _ 14 _ _ _ r2
  have c15 := cell_of_row w2 _ 15 _ _ _ r2
  go_wp2_with fail
  refine (ku _).mono ?_
  rintro e w3 ⟨rfl, hb3⟩
  have r3 := (hb3.block _ (lt_of_row r2)).trans r2
  have hb4 := hbb.trans (hb3.mono hbb.size)
  clear hb3 hbb c0 c1 c2 c3 c4 c5 c6 c7 c8 c9 c10 c11 c12 c13 c14 c15
  have d1 := cell_of_row w3 _ 1 _ _ _ r3
  have d8 := cell_of_row w3 _ 8 _ _ _ r3
  have d9 := cell_of_row w3 _ 9 _ _ _ r3
  have d10 := cell_of_row w3 _ 10 _ _ _ r3
  have d11 := cell_of_row w3 _ 11 _ _ _ r3
  have d12 := cell_of_row w3 _ 12 _ _ _ r3
  have d13 := cell_of_row w3 _ 13 _ _ _ r3
  have d14 := cell_of_row w3 _ 14 _ _ _ r3
  have d15 := cell_of_row w3 _ 15 _ _ _ r3
  go_wp2_with fail
  go_ret
  exact ⟨rfl, hb4⟩
end Go.Proofs.YtfcenidepkjdcaaDoor
