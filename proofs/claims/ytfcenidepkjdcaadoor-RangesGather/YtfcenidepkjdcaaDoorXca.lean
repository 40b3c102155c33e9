/- What the laws' own functions say: does a look see a document (sees)? The document's Get of any value that may be. The laws' own hits: does a touch hit a look? -/
import Derived.Test.YtfcenidepkjdcaaDoorXaq
import Derived.Test.YtfcenidepkjdcaaDoorVRge
namespace Go.Proofs.YtfcenidepkjdcaaDoor
open Go.RowKit Go.Shelf
attribute [local go_sem] Oper.semAt_some
theorem info80 : (Tryd.prog.info? 80).map (·.size) = some 6 := by kernel_rfl
set_option maxRecDepth 100000 in
set_option maxHeartbeats 4000000 in
/- The document's Get of a value without names. -/
theorem rget_none {w : World} (t : V.Tr) (x : V.Ad) (name : ByteArray) (hq : t.q = 0) :
    Calls Tryd.prog 47 #[t.val x, .string name] w fun e w' => e = .returned (.agg noneA) ∧ Below w.heap.size w w' := by
  show Calls Tryd.prog 47 #[.agg #[.int .i64 t.k, .bool t.b, .int .i64 t.n, .string t.s, .slice x.pa t.m x.pc, .slice x.na t.q x.nc], .string name] w _
  rw [hq]
  unfold noneA
  clear hq
  go_enter Tryd.func47, Tryd.ntmps47
  go_wp2_with fail
  go_loopw [5] (fun c5 wr => c5 = .int .i64 0 ∧ wr.heap[w.heap.size]? = some (.cells #[.int .i64 t.k, .bool t.b, .int .i64 t.n, .string t.s, .slice x.pa t.m x.pc, .slice x.na 0 x.nc] 80 (0, 0)) ∧ wr.heap[w.heap.size + 1]? = some (.cells #[.int .i64 0, .bool false, .int .i64 0, .string ⟨#[]⟩, .slice none 0 0, .slice none 0 0] 80 (0, 0)) ∧ Below w.heap.size w wr) (fun _ _ => 0)
  case atStart =>
    refine ⟨rfl, (Below.heap_alloc _ _ _ (by simp)).trans (heap_alloc_new _ _), ?_, ((Below.refl _ w).alloc (Nat.le_refl _) _).alloc (by simp) _⟩
    have := heap_alloc_new (w.alloc (.cells #[.int .i64 t.k, .bool t.b, .int .i64 t.n, .string t.s, .slice x.pa t.m x.pc, .slice x.na 0 x.nc] 80)) (.cells #[.int .i64 0, .bool false, .int .i64 0, .string ⟨#[]⟩, .slice none 0 0, .slice none 0 0] 80)
    simpa using this
  case round =>
    obtain ⟨rfl, r0, r1, hb⟩ := hrel
    have HN : Hid (wr.heap[w.heap.size + 1]? = some (.cells #[.int .i64 0, .bool false, .int .i64 0, .string ⟨#[]⟩, .slice none 0 0, .slice none 0 0] 80 (0, 0)) ∧ Below w.heap.size w wr) := ⟨r1, hb⟩
    have c0 := cell_of_row wr _ 0 _ _ _ r0
    have c5 := cell_of_row wr _ 5 _ _ _ r0
    clear r1 hb r0
    go_wp2_with (first | (refine wpList_put rfl 80 (.tmp 4) (.tmp 30) rfl rfl rfl rfl HN.out.1 rfl info80 (by simp [Value.oneCell']) ?_) | fail)
    exact bodyPost_ret (results_cell_row Tryd.results47 _ _ (w.heap.size + 1) 80 _ (0, 0) _ rfl (put_row _ HN.out.1 rfl) Tryd.underlying80 rfl info80) rfl ⟨rfl, put_below HN.out.2 _ (by omega) _⟩
theorem ix_hit {q i : Nat} {g : Nat → ByteArray} {nm : ByteArray} (hi : i < q) (h : g i = nm) (hn : ∀ j, j < i → g j ≠ nm) : ixOf nm q g = (i : Int) := by
  have hz : ∀ j, j < q → ((List.range q).map g)[j]! = g j := fun j hj => by simp [hj]
  have := Lib.idxBy_hit (fun _ y => y.toList == nm.toList) ((List.range q).map g) q i (default : ByteArray) hi (by simp) (by show (((List.range q).map g)[i]!.toList == nm.toList) = true; rw [hz i hi, h]; simp)
    (fun j hj => by show (((List.range q).map g)[j]!.toList == nm.toList) = false; rw [hz j (by omega)]; exact (Lib.bytes_beq_false_iff _ _).2 (hn j hj))
  rw [List.take_of_length_le (by simp)] at this
  exact this
theorem ix_miss {q : Nat} {g : Nat → ByteArray} {nm : ByteArray} (hn : ∀ j, j < q → g j ≠ nm) : ixOf nm q g = -1 := by
  have hz : ∀ j, j < q → ((List.range q).map g)[j]! = g j := fun j hj => by simp [hj]
  have := Lib.idxBy_miss (fun _ y => y.toList == nm.toList) ((List.range q).map g) q (default : ByteArray)
    (fun j hj => by show (((List.range q).map g)[j]!.toList == nm.toList) = false; rw [hz j hj]; exact (Lib.bytes_beq_false_iff _ _).2 (hn j hj))
  rw [List.take_of_length_le (by simp)] at this
  exact this
set_option maxRecDepth 100000 in
theorem formed_q {k : Int} {b : Bool} {n : Int} {s : ByteArray} {m q : Nat} (h : V.formedB k b n s m q = true) (hk : k ≠ 6) : q = 0 := by
  unfold V.formedB at h
  simp only [Bool.and_eq_true, Bool.or_eq_true, decide_eq_true_eq] at h
  have := h.2
  omega
set_option maxRecDepth 100000 in
theorem rget_good {Bd : Nat} {w : World} (t : V.Tr) (x : V.Ad) (name : ByteArray) (hL : V.Lies Bd w t x) (hB : Bd ≤ w.heap.size) (hG : Good t) :
    Calls Tryd.prog 47 #[t.val x, .string name] w fun e w' => (∃ v, e = .returned v ∧ LyV (getT t name) v w') ∧ Below w.heap.size w w' := by
  have hno : ∀ {e : Ending} {w' : World}, getT t name = noT → e = .returned (.agg noneA) ∧ Below w.heap.size w w' → (∃ v, e = .returned v ∧ LyV (getT t name) v w') ∧ Below w.heap.size w w' := by
    rintro e w' h ⟨rfl, hb⟩
    rw [h]
    exact ⟨⟨_, rfl, ⟨none, 0, none, 0⟩, rfl, no_lies⟩, hb⟩
  cases t with
  | no => exact hL.no.elim
  | mk k b n s m f q g =>
    obtain ⟨h1, _⟩ := V.check_zero hG.c
    have hP := V.soundP h1
    by_cases hk : k = 6
    · subst hk
      obtain ⟨hqm, _⟩ := hP.nm rfl
      refine (V.rget_any hL hB (by omega) name).mono ?_
      rintro e w' ⟨⟨i, hi, hgi, hj, A, rfl, hA⟩ | ⟨hj, rfl⟩, hb⟩
      · have hg : getT (.mk 6 b n s m f q g) name = f i := by
          show (if (6 : Int) = 6 ∧ 0 ≤ ixOf name q g ∧ ixOf name q g < m then f (ixOf name q g).toNat else noT) = _
          rw [ix_hit hi hgi hj, if_pos ⟨rfl, by omega, by omega⟩]
          rfl
        rw [hg]
        exact ⟨⟨_, rfl, A, rfl, V.Lies.up (Nat.le_trans hB hb.size) hA⟩, hb⟩
      · refine hno ?_ ⟨rfl, hb⟩
        show (if (6 : Int) = 6 ∧ 0 ≤ ixOf name q g ∧ ixOf name q g < m then f (ixOf name q g).toNat else noT) = _
        rw [ix_miss hj, if_neg (by omega)]
    · refine (rget_none (.mk k b n s m f q g) x name (formed_q hP.fm hk)).mono fun e w' h => hno ?_ h
      show (if k = 6 ∧ 0 ≤ ixOf name q g ∧ ixOf name q g < m then f (ixOf name q g).toNat else noT) = _
      rw [if_neg (fun h => hk h.1)]
set_option maxRecDepth 100000 in
set_option maxHeartbeats 8000000 in
theorem sees_all (tb fl lo hi : ByteArray) (t : V.Tr) (x : V.Ad) (w : World) (h0 : fl.toList.isEmpty = true) : Calls Tryd.prog 25 #[.agg #[.string tb, .string fl, .string lo, .string hi], .agg #[.int .i64 t.k, .bool t.b, .int .i64 t.n, .string t.s, .slice x.pa t.m x.pc, .slice x.na t.q x.nc]] w fun e w' => e = .returned (.bool true) ∧ Below w.heap.size w w' := by
  go_enter Tryd.func25, Tryd.ntmps25
  go_wp2
  go_ret
  exact ⟨rfl, ((Below.refl _ w).alloc (Nat.le_refl _) _).alloc (by simp) _⟩
set_option maxRecDepth 100000 in
set_option maxHeartbeats 8000000 in
theorem sees_some {Bd : Nat} {w : World} (tb fl lo hi : ByteArray) (t : V.Tr) (x : V.Ad) (h0 : fl.toList.isEmpty = false) (hL : V.Lies Bd w t x) (hB : Bd ≤ w.heap.size) (hG : Good t) :
    Calls Tryd.prog 25 #[.agg #[.string tb, .string fl, .string lo, .string hi], .agg #[.int .i64 t.k, .bool t.b, .int .i64 t.n, .string t.s, .slice x.pa t.m x.pc, .slice x.na t.q x.nc]] w fun e w' => e = .returned (.bool (V.hasB lo hi (keyB t fl))) ∧ Below w.heap.size w w' := by
  obtain ⟨w1, hw1⟩ : ∃ w1, (w.alloc (.cells #[.string tb, .string fl, .string lo, .string hi] 25)).alloc (.cells #[.int .i64 t.k, .bool t.b, .int .i64 t.n, .string t.s, .slice x.pa t.m x.pc, .slice x.na t.q x.nc] 29) = w1 := ⟨_, rfl⟩
  have hb1 : Below w.heap.size w w1 := by rw [← hw1]; exact ((Below.refl _ w).alloc (Nat.le_refl _) _).alloc (by simp) _
  have r0 : w1.heap[w.heap.size]? = some (.cells #[.string tb, .string fl, .string lo, .string hi] 25 (0, 0)) := by rw [← hw1]; exact (Below.heap_alloc _ _ _ (by simp)).trans (heap_alloc_new _ _)
  have r1 : w1.heap[w.heap.size + 1]? = some (.cells #[.int .i64 t.k, .bool t.b, .int .i64 t.n, .string t.s, .slice x.pa t.m x.pc, .slice x.na t.q x.nc] 29 (0, 0)) := by
    rw [← hw1]
    have := heap_alloc_new (w.alloc (.cells #[.string tb, .string fl, .string lo, .string hi] 25)) (.cells #[.int .i64 t.k, .bool t.b, .int .i64 t.n, .string t.s, .slice x.pa t.m x.pc, .slice x.na t.q x.nc] 29)
    simpa using this
  have HW : Hid ((w.alloc (.cells #[.string tb, .string fl, .string lo, .string hi] 25)).alloc (.cells #[.int .i64 t.k, .bool t.b, .int .i64 t.n, .string t.s, .slice x.pa t.m x.pc, .slice x.na t.q x.nc] 29) = w1) := hw1
  clear hw1
  have kr : ∀ W, Below w1.heap.size w1 W → Calls Tryd.prog 48 #[.agg #[.int .i64 t.k, .bool t.b, .int .i64 t.n, .string t.s, .slice x.pa t.m x.pc, .slice x.na t.q x.nc]] W fun e w' => (∃ v, e = .returned v ∧ LyV t v w') ∧ Below W.heap.size W w' := fun W hb => by
    have hbW : Below w.heap.size w W := hb1.trans (hb.mono hb1.size)
    refine (V.ref_all t hG.r Bd W x (hL.later (hbW.mono hB)) (Nat.le_trans hB hbW.size)).mono ?_
    rintro e w' ⟨A, rfl, hA, hb'⟩
    have := hb'.size
    have := hbW.size
    exact ⟨⟨_, rfl, A, rfl, hA.up (fun k hk => by omega)⟩, hb'⟩
  have kg : ∀ W A, V.Lies W.heap.size W t A → Calls Tryd.prog 47 #[t.val A, .string fl] W fun e w' => (∃ v, e = .returned v ∧ LyV (getT t fl) v w') ∧ Below W.heap.size W w' := fun W A hA => rget_good t A fl hA (Nat.le_refl _) hG
  have kk : ∀ W A, V.Lies W.heap.size W (getT t fl) A → Calls Tryd.prog 46 #[(getT t fl).val A] W fun e w' => e = .returned (.string (keyB t fl)) ∧ Below W.heap.size W w' := fun W A hA => key_kok (hG.get fl) hA (Nat.le_refl _)
  obtain ⟨X, hX⟩ : ∃ X, V.hasB lo hi (keyB t fl) = X := ⟨_, rfl⟩
  rw [hX]
  obtain ⟨K, hK⟩ : ∃ K, keyB t fl = K := ⟨_, rfl⟩
  rw [hK] at kk hX
  have HX : Hid (V.hasB lo hi K = X) := hX
  obtain ⟨G, hG'⟩ : ∃ G, getT t fl = G := ⟨_, rfl⟩
  rw [hG'] at kg kk
  clear hL hG hX hK hG'
  go_enter Tryd.func25, Tryd.ntmps25
  go_wp2_with fail
  rw [HW.out]
  refine B.any_tail (by kernel_rfl) 6 (by exact Nat.le_of_ble_eq_true rfl) (fun i => i + 9) (B.mixR [(1, LyV t), (4, LyV G)] [.agg #[.int .i64 t.k, .bool t.b, .int .i64 t.n, .string t.s, .slice x.pa t.m x.pc, .slice x.na t.q x.nc], undef, .pointer (some ⟨w.heap.size, 1, none⟩), .string fl, undef, .string K]) (by kernel_rfl) (by kernel_rfl) (by kernel_rfl) (by kernel_rfl) (B.mixR_later _ _ (B.stab_cons (LyV.later) (B.stab_cons (LyV.later) (B.stab_nil)))) ?step ?post
  case step =>
    intro iq hiq a W hrest hb hk
    have hp2 : a.eval (.tmp 2) = .pointer (some ⟨w.heap.size, 0, none⟩) := (hrest 2 (by intro iq2 hiq2; (repeat' split) <;> omega)).trans rfl
    have fp2 := B.ev hp2
    have hx2 : W.heap[w.heap.size]? = some (.cells #[.string tb, .string fl, .string lo, .string hi] 25 (0, 0)) := (hb.block _ (lt_of_row r0)).trans r0
    have hp3 : a.eval (.tmp 3) = .pointer (some ⟨(w.heap.size + 1), 0, none⟩) := (hrest 3 (by intro iq2 hiq2; (repeat' split) <;> omega)).trans rfl
    have fp3 := B.ev hp3
    have hx3 : W.heap[(w.heap.size + 1)]? = some (.cells #[.int .i64 t.k, .bool t.b, .int .i64 t.n, .string t.s, .slice x.pa t.m x.pc, .slice x.na t.q x.nc] 29 (0, 0)) := (hb.block _ (lt_of_row r1)).trans r1
    clear hrest
    obtain rfl | rfl | rfl | rfl | rfl | rfl : iq = 0 ∨ iq = 1 ∨ iq = 2 ∨ iq = 3 ∨ iq = 4 ∨ iq = 5 := by omega
    · clear hiq
      have hc0 := cell_of_row W (w.heap.size + 1) 0 _ _ _ hx3
      have hc1 := cell_of_row W (w.heap.size + 1) 1 _ _ _ hx3
      have hc2 := cell_of_row W (w.heap.size + 1) 2 _ _ _ hx3
      have hc3 := cell_of_row W (w.heap.size + 1) 3 _ _ _ hx3
      have hc4 := cell_of_row W (w.heap.size + 1) 4 _ _ _ hx3
      have hc5 := cell_of_row W (w.heap.size + 1) 5 _ _ _ hx3
      clear hk
      refine ⟨_, rfl, rfl, rfl, B.wp_value (v := .agg #[.int .i64 t.k, .bool t.b, .int .i64 t.n, .string t.s, .slice x.pa t.m x.pc, .slice x.na t.q x.nc]) (w' := W) ?_ ⟨_, rfl, Below.refl _ _, rfl⟩⟩
      go_simp
    · clear hiq
      have e0 : a.eval (.tmp 9) = .agg #[.int .i64 t.k, .bool t.b, .int .i64 t.n, .string t.s, .slice x.pa t.m x.pc, .slice x.na t.q x.nc] := hk 0 (B.mem_of (by kernel_rfl))
      have f0 := B.ev e0
      clear hk
      refine ⟨_, rfl, rfl, rfl, B.wp_enter (f := 48) (args := #[.agg #[.int .i64 t.k, .bool t.b, .int .i64 t.n, .string t.s, .slice x.pa t.m x.pc, .slice x.na t.q x.nc]]) ?_ ((kr W hb).mono ?_)⟩
      · go_simp
      · rintro e w2 ⟨⟨u, rfl, hu⟩, hb2⟩
        exact ⟨_, rfl, _, rfl, hb2, hu⟩
    · clear hiq
      clear hk
      refine ⟨_, rfl, rfl, rfl, B.wp_value (v := .pointer (some ⟨w.heap.size, 1, none⟩)) (w' := W) ?_ ⟨_, rfl, Below.refl _ _, rfl⟩⟩
      go_simp
    · clear hiq
      have e2 : a.eval (.tmp 11) = .pointer (some ⟨w.heap.size, 1, none⟩) := hk 2 (B.mem_of (by kernel_rfl))
      have f2 := B.ev e2
      have hc1 := cell_of_row W w.heap.size 1 _ _ _ hx2
      clear hk
      refine ⟨_, rfl, rfl, rfl, B.wp_value (v := .string fl) (w' := W) ?_ ⟨_, rfl, Below.refl _ _, rfl⟩⟩
      go_simp
    · clear hiq
      obtain ⟨A1, e1, hA1⟩ := show LyV t (a.eval (.tmp 10)) W from hk 1 (B.mem_of (by kernel_rfl))
      have f1 := B.ev e1
      have e3 : a.eval (.tmp 12) = .string fl := hk 3 (B.mem_of (by kernel_rfl))
      have f3 := B.ev e3
      clear hk
      refine ⟨_, rfl, rfl, rfl, B.wp_enter (f := 47) (args := #[t.val A1, .string fl]) ?_ ((kg W A1 hA1).mono ?_)⟩
      · go_simp
      · rintro e w2 ⟨⟨u, rfl, hu⟩, hb2⟩
        exact ⟨_, rfl, _, rfl, hb2, hu⟩
    · clear hiq
      obtain ⟨A4, e4, hA4⟩ := show LyV G (a.eval (.tmp 13)) W from hk 4 (B.mem_of (by kernel_rfl))
      have f4 := B.ev e4
      clear hk
      refine ⟨_, rfl, rfl, rfl, B.wp_enter (f := 46) (args := #[G.val A4]) ?_ ((kk W A4 hA4).mono ?_)⟩
      · go_simp
      · rintro e w2 ⟨rfl, hb2⟩
        exact ⟨_, rfl, _, rfl, hb2, rfl⟩
  case post =>
    intro V1 W hbW hV
    have e5 : V1 5 = .string K := hV 5 (by omega)
    have hBW : Below w.heap.size w W := hb1.trans (hbW.mono hb1.size)
    have q0 := (hbW.block _ (lt_of_row r0)).trans r0
    have c2 := cell_of_row W _ 2 _ _ _ q0
    have c3 := cell_of_row W _ 3 _ _ _ q0
    clear hV kr kg kk q0 r0 r1 hb1 hbW HW
    simp only [B.putAll, Nat.reduceAdd]
    rw [e5]
    simp only [Act.put, List.setIfInBounds_toArray, List.set_cons_zero, List.set_cons_succ]
    go_wp2
    · rename_i h1 h2
      go_ret
      rw [← HX.out, V.hasB_open h1 h2]
      exact ⟨rfl, hBW⟩
    · rename_i h1 h2
      go_ret
      rw [← HX.out, V.hasB_end h1 h2]
      exact ⟨rfl, hBW⟩
    · rename_i h1
      go_ret
      rw [← HX.out, V.hasB_no h1]
      exact ⟨rfl, hBW⟩
set_option maxRecDepth 100000 in
theorem sees_any {Bd : Nat} {w : World} (tb fl lo hi : ByteArray) (t : V.Tr) (x : V.Ad) (hL : V.Lies Bd w t x) (hB : Bd ≤ w.heap.size) (hG : Good t) :
    Calls Tryd.prog 25 #[.agg (rdA tb fl lo hi), t.val x] w fun e w' => e = .returned (.bool (seeB fl lo hi t)) ∧ Below w.heap.size w w' := by
  unfold seeB
  cases h : fl.toList.isEmpty with
  | true => exact sees_all tb fl lo hi t x w h
  | false => exact sees_some tb fl lo hi t x h hL hB hG
end Go.Proofs.YtfcenidepkjdcaaDoor
namespace Go.Proofs.YtfcenidepkjdcaaDoor
open Go.RowKit Go.Shelf
attribute [local go_sem] Oper.semAt_some
set_option maxRecDepth 100000 in
set_option maxHeartbeats 8000000 in
theorem lhit_else {w : World} (tb fl lo hi tt : ByteArray) (sh was is : Bool) (t : V.Tr) (x : V.Ad) (u : V.Tr) (y : V.Ad) (htt : (tb.toList == tt.toList) = false) :
    Calls Tryd.prog 10 #[.agg #[.string tb, .string fl, .string lo, .string hi], .agg #[.string tt, .bool sh, .int .i64 t.k, .bool t.b, .int .i64 t.n, .string t.s, .slice x.pa t.m x.pc, .slice x.na t.q x.nc, .int .i64 u.k, .bool u.b, .int .i64 u.n, .string u.s, .slice y.pa u.m y.pc, .slice y.na u.q y.nc, .bool was, .bool is]] w fun e w' => e = .returned (.bool false) ∧ Below w.heap.size w w' := by
  obtain ⟨w1, hw1⟩ : ∃ w1, (w.alloc (.cells #[.string tb, .string fl, .string lo, .string hi] 25)).alloc (.cells #[.string tt, .bool sh, .int .i64 t.k, .bool t.b, .int .i64 t.n, .string t.s, .slice x.pa t.m x.pc, .slice x.na t.q x.nc, .int .i64 u.k, .bool u.b, .int .i64 u.n, .string u.s, .slice y.pa u.m y.pc, .slice y.na u.q y.nc, .bool was, .bool is] 31) = w1 := ⟨_, rfl⟩
  have hb1 : Below w.heap.size w w1 := by rw [← hw1]; exact ((Below.refl _ w).alloc (Nat.le_refl _) _).alloc (by simp) _
  have HW : Hid ((w.alloc (.cells #[.string tb, .string fl, .string lo, .string hi] 25)).alloc (.cells #[.string tt, .bool sh, .int .i64 t.k, .bool t.b, .int .i64 t.n, .string t.s, .slice x.pa t.m x.pc, .slice x.na t.q x.nc, .int .i64 u.k, .bool u.b, .int .i64 u.n, .string u.s, .slice y.pa u.m y.pc, .slice y.na u.q y.nc, .bool was, .bool is] 31) = w1) := hw1
  clear hw1
  go_enter Tryd.func10, Tryd.ntmps10
  go_wp2_with fail
  go_ret
  rw [HW.out]
  exact ⟨rfl, hb1⟩
set_option maxRecDepth 100000 in
set_option maxHeartbeats 8000000 in
theorem lhit_shape {w : World} (tb fl lo hi tt : ByteArray) (was is : Bool) (t : V.Tr) (x : V.Ad) (u : V.Tr) (y : V.Ad) (htt : (tb.toList == tt.toList) = true) :
    Calls Tryd.prog 10 #[.agg #[.string tb, .string fl, .string lo, .string hi], .agg #[.string tt, .bool true, .int .i64 t.k, .bool t.b, .int .i64 t.n, .string t.s, .slice x.pa t.m x.pc, .slice x.na t.q x.nc, .int .i64 u.k, .bool u.b, .int .i64 u.n, .string u.s, .slice y.pa u.m y.pc, .slice y.na u.q y.nc, .bool was, .bool is]] w fun e w' => e = .returned (.bool true) ∧ Below w.heap.size w w' := by
  obtain ⟨w1, hw1⟩ : ∃ w1, (w.alloc (.cells #[.string tb, .string fl, .string lo, .string hi] 25)).alloc (.cells #[.string tt, .bool true, .int .i64 t.k, .bool t.b, .int .i64 t.n, .string t.s, .slice x.pa t.m x.pc, .slice x.na t.q x.nc, .int .i64 u.k, .bool u.b, .int .i64 u.n, .string u.s, .slice y.pa u.m y.pc, .slice y.na u.q y.nc, .bool was, .bool is] 31) = w1 := ⟨_, rfl⟩
  have hb1 : Below w.heap.size w w1 := by rw [← hw1]; exact ((Below.refl _ w).alloc (Nat.le_refl _) _).alloc (by simp) _
  have HW : Hid ((w.alloc (.cells #[.string tb, .string fl, .string lo, .string hi] 25)).alloc (.cells #[.string tt, .bool true, .int .i64 t.k, .bool t.b, .int .i64 t.n, .string t.s, .slice x.pa t.m x.pc, .slice x.na t.q x.nc, .int .i64 u.k, .bool u.b, .int .i64 u.n, .string u.s, .slice y.pa u.m y.pc, .slice y.na u.q y.nc, .bool was, .bool is] 31) = w1) := hw1
  clear hw1
  go_enter Tryd.func10, Tryd.ntmps10
  go_wp2_with fail
  go_ret
  rw [HW.out]
  exact ⟨rfl, hb1⟩
set_option maxRecDepth 100000 in
set_option maxHeartbeats 8000000 in
theorem lhit_none {w : World} (tb fl lo hi tt : ByteArray) (t : V.Tr) (x : V.Ad) (u : V.Tr) (y : V.Ad) (htt : (tb.toList == tt.toList) = true) :
    Calls Tryd.prog 10 #[.agg #[.string tb, .string fl, .string lo, .string hi], .agg #[.string tt, .bool false, .int .i64 t.k, .bool t.b, .int .i64 t.n, .string t.s, .slice x.pa t.m x.pc, .slice x.na t.q x.nc, .int .i64 u.k, .bool u.b, .int .i64 u.n, .string u.s, .slice y.pa u.m y.pc, .slice y.na u.q y.nc, .bool false, .bool false]] w fun e w' => e = .returned (.bool false) ∧ Below w.heap.size w w' := by
  obtain ⟨w1, hw1⟩ : ∃ w1, (w.alloc (.cells #[.string tb, .string fl, .string lo, .string hi] 25)).alloc (.cells #[.string tt, .bool false, .int .i64 t.k, .bool t.b, .int .i64 t.n, .string t.s, .slice x.pa t.m x.pc, .slice x.na t.q x.nc, .int .i64 u.k, .bool u.b, .int .i64 u.n, .string u.s, .slice y.pa u.m y.pc, .slice y.na u.q y.nc, .bool false, .bool false] 31) = w1 := ⟨_, rfl⟩
  have hb1 : Below w.heap.size w w1 := by rw [← hw1]; exact ((Below.refl _ w).alloc (Nat.le_refl _) _).alloc (by simp) _
  have HW : Hid ((w.alloc (.cells #[.string tb, .string fl, .string lo, .string hi] 25)).alloc (.cells #[.string tt, .bool false, .int .i64 t.k, .bool t.b, .int .i64 t.n, .string t.s, .slice x.pa t.m x.pc, .slice x.na t.q x.nc, .int .i64 u.k, .bool u.b, .int .i64 u.n, .string u.s, .slice y.pa u.m y.pc, .slice y.na u.q y.nc, .bool false, .bool false] 31) = w1) := hw1
  clear hw1
  go_enter Tryd.func10, Tryd.ntmps10
  go_wp2_with fail
  go_ret
  rw [HW.out]
  exact ⟨rfl, hb1⟩
set_option maxRecDepth 100000 in
set_option maxHeartbeats 8000000 in
theorem lhit_new {w : World} (tb fl lo hi tt : ByteArray) (t : V.Tr) (x : V.Ad) (u : V.Tr) (y : V.Ad) (htt : (tb.toList == tt.toList) = true)
    (U : Bool) (ku : ∀ W, Below w.heap.size w W → Calls Tryd.prog 25 #[.agg #[.string tb, .string fl, .string lo, .string hi], .agg #[.int .i64 u.k, .bool u.b, .int .i64 u.n, .string u.s, .slice y.pa u.m y.pc, .slice y.na u.q y.nc]] W fun e w' => e = .returned (.bool U) ∧ Below W.heap.size W w') :
    Calls Tryd.prog 10 #[.agg #[.string tb, .string fl, .string lo, .string hi], .agg #[.string tt, .bool false, .int .i64 t.k, .bool t.b, .int .i64 t.n, .string t.s, .slice x.pa t.m x.pc, .slice x.na t.q x.nc, .int .i64 u.k, .bool u.b, .int .i64 u.n, .string u.s, .slice y.pa u.m y.pc, .slice y.na u.q y.nc, .bool false, .bool true]] w fun e w' => e = .returned (.bool U) ∧ Below w.heap.size w w' := by
  obtain ⟨w1, hw1⟩ : ∃ w1, (w.alloc (.cells #[.string tb, .string fl, .string lo, .string hi] 25)).alloc (.cells #[.string tt, .bool false, .int .i64 t.k, .bool t.b, .int .i64 t.n, .string t.s, .slice x.pa t.m x.pc, .slice x.na t.q x.nc, .int .i64 u.k, .bool u.b, .int .i64 u.n, .string u.s, .slice y.pa u.m y.pc, .slice y.na u.q y.nc, .bool false, .bool true] 31) = w1 := ⟨_, rfl⟩
  have hb1 : Below w.heap.size w w1 := by rw [← hw1]; exact ((Below.refl _ w).alloc (Nat.le_refl _) _).alloc (by simp) _
  have r0 : w1.heap[w.heap.size]? = some (.cells #[.string tb, .string fl, .string lo, .string hi] 25 (0, 0)) := by rw [← hw1]; exact (Below.heap_alloc _ _ _ (by simp)).trans (heap_alloc_new _ _)
  have r1 : w1.heap[w.heap.size + 1]? = some (.cells #[.string tt, .bool false, .int .i64 t.k, .bool t.b, .int .i64 t.n, .string t.s, .slice x.pa t.m x.pc, .slice x.na t.q x.nc, .int .i64 u.k, .bool u.b, .int .i64 u.n, .string u.s, .slice y.pa u.m y.pc, .slice y.na u.q y.nc, .bool false, .bool true] 31 (0, 0)) := by
    rw [← hw1]
    have := heap_alloc_new (w.alloc (.cells #[.string tb, .string fl, .string lo, .string hi] 25)) (.cells #[.string tt, .bool false, .int .i64 t.k, .bool t.b, .int .i64 t.n, .string t.s, .slice x.pa t.m x.pc, .slice x.na t.q x.nc, .int .i64 u.k, .bool u.b, .int .i64 u.n, .string u.s, .slice y.pa u.m y.pc, .slice y.na u.q y.nc, .bool false, .bool true] 31)
    simpa using this
  have HW : Hid ((w.alloc (.cells #[.string tb, .string fl, .string lo, .string hi] 25)).alloc (.cells #[.string tt, .bool false, .int .i64 t.k, .bool t.b, .int .i64 t.n, .string t.s, .slice x.pa t.m x.pc, .slice x.na t.q x.nc, .int .i64 u.k, .bool u.b, .int .i64 u.n, .string u.s, .slice y.pa u.m y.pc, .slice y.na u.q y.nc, .bool false, .bool true] 31) = w1) := hw1
  clear hw1
  go_enter Tryd.func10, Tryd.ntmps10
  go_wp2_with fail
  rw [HW.out]
  refine (ku w1 hb1).mono ?_
  rintro e w2 ⟨rfl, hb2⟩
  have hb := hb1.trans (hb2.mono hb1.size)
  clear hb1 hb2 r0 r1 HW
  go_wp2_with fail
  go_ret
  exact ⟨rfl, hb⟩
set_option maxRecDepth 100000 in
set_option maxHeartbeats 8000000 in
theorem lhit_old {w : World} (tb fl lo hi tt : ByteArray) (is : Bool) (t : V.Tr) (x : V.Ad) (u : V.Tr) (y : V.Ad) (htt : (tb.toList == tt.toList) = true)
    (T : Bool) (kt : ∀ W, Below w.heap.size w W → Calls Tryd.prog 25 #[.agg #[.string tb, .string fl, .string lo, .string hi], .agg #[.int .i64 t.k, .bool t.b, .int .i64 t.n, .string t.s, .slice x.pa t.m x.pc, .slice x.na t.q x.nc]] W fun e w' => e = .returned (.bool T) ∧ Below W.heap.size W w')
    (U : Bool) (ku : ∀ W, Below w.heap.size w W → Calls Tryd.prog 25 #[.agg #[.string tb, .string fl, .string lo, .string hi], .agg #[.int .i64 u.k, .bool u.b, .int .i64 u.n, .string u.s, .slice y.pa u.m y.pc, .slice y.na u.q y.nc]] W fun e w' => e = .returned (.bool U) ∧ Below W.heap.size W w') :
    Calls Tryd.prog 10 #[.agg #[.string tb, .string fl, .string lo, .string hi], .agg #[.string tt, .bool false, .int .i64 t.k, .bool t.b, .int .i64 t.n, .string t.s, .slice x.pa t.m x.pc, .slice x.na t.q x.nc, .int .i64 u.k, .bool u.b, .int .i64 u.n, .string u.s, .slice y.pa u.m y.pc, .slice y.na u.q y.nc, .bool true, .bool is]] w fun e w' => e = .returned (.bool (T || (is && U))) ∧ Below w.heap.size w w' := by
  obtain ⟨w1, hw1⟩ : ∃ w1, (w.alloc (.cells #[.string tb, .string fl, .string lo, .string hi] 25)).alloc (.cells #[.string tt, .bool false, .int .i64 t.k, .bool t.b, .int .i64 t.n, .string t.s, .slice x.pa t.m x.pc, .slice x.na t.q x.nc, .int .i64 u.k, .bool u.b, .int .i64 u.n, .string u.s, .slice y.pa u.m y.pc, .slice y.na u.q y.nc, .bool true, .bool is] 31) = w1 := ⟨_, rfl⟩
  have hb1 : Below w.heap.size w w1 := by rw [← hw1]; exact ((Below.refl _ w).alloc (Nat.le_refl _) _).alloc (by simp) _
  have r0 : w1.heap[w.heap.size]? = some (.cells #[.string tb, .string fl, .string lo, .string hi] 25 (0, 0)) := by rw [← hw1]; exact (Below.heap_alloc _ _ _ (by simp)).trans (heap_alloc_new _ _)
  have r1 : w1.heap[w.heap.size + 1]? = some (.cells #[.string tt, .bool false, .int .i64 t.k, .bool t.b, .int .i64 t.n, .string t.s, .slice x.pa t.m x.pc, .slice x.na t.q x.nc, .int .i64 u.k, .bool u.b, .int .i64 u.n, .string u.s, .slice y.pa u.m y.pc, .slice y.na u.q y.nc, .bool true, .bool is] 31 (0, 0)) := by
    rw [← hw1]
    have := heap_alloc_new (w.alloc (.cells #[.string tb, .string fl, .string lo, .string hi] 25)) (.cells #[.string tt, .bool false, .int .i64 t.k, .bool t.b, .int .i64 t.n, .string t.s, .slice x.pa t.m x.pc, .slice x.na t.q x.nc, .int .i64 u.k, .bool u.b, .int .i64 u.n, .string u.s, .slice y.pa u.m y.pc, .slice y.na u.q y.nc, .bool true, .bool is] 31)
    simpa using this
  have HW : Hid ((w.alloc (.cells #[.string tb, .string fl, .string lo, .string hi] 25)).alloc (.cells #[.string tt, .bool false, .int .i64 t.k, .bool t.b, .int .i64 t.n, .string t.s, .slice x.pa t.m x.pc, .slice x.na t.q x.nc, .int .i64 u.k, .bool u.b, .int .i64 u.n, .string u.s, .slice y.pa u.m y.pc, .slice y.na u.q y.nc, .bool true, .bool is] 31) = w1) := hw1
  clear hw1
  go_enter Tryd.func10, Tryd.ntmps10
  go_wp2_with fail
  rw [HW.out]
  refine (kt w1 hb1).mono ?_
  rintro e w2 ⟨rfl, hb2⟩
  have hb := hb1.trans (hb2.mono hb1.size)
  have q0 := (hb2.block _ (lt_of_row r0)).trans r0
  have q1 := (hb2.block _ (lt_of_row r1)).trans r1
  have d8 := cell_of_row w2 _ 8 _ _ _ q1
  have d9 := cell_of_row w2 _ 9 _ _ _ q1
  have d10 := cell_of_row w2 _ 10 _ _ _ q1
  have d11 := cell_of_row w2 _ 11 _ _ _ q1
  have d12 := cell_of_row w2 _ 12 _ _ _ q1
  have d13 := cell_of_row w2 _ 13 _ _ _ q1
  have d15 := cell_of_row w2 _ 15 _ _ _ q1
  have g0 := cell_of_row w2 _ 0 _ _ _ q0
  have g1 := cell_of_row w2 _ 1 _ _ _ q0
  have g2 := cell_of_row w2 _ 2 _ _ _ q0
  have g3 := cell_of_row w2 _ 3 _ _ _ q0
  clear hb1 hb2 r0 r1 HW kt q0 q1
  cases T with
  | true =>
    go_wp2_with fail
    go_ret
    exact ⟨rfl, hb⟩
  | false =>
    cases is with
    | false =>
      go_wp2_with fail
      go_ret
      exact ⟨rfl, hb⟩
    | true =>
      go_wp2_with fail
      refine (ku w2 hb).mono ?_
      rintro e w4 ⟨rfl, hb5⟩
      go_wp2_with fail
      go_ret
      exact ⟨rfl, hb.trans (hb5.mono hb.size)⟩
set_option maxRecDepth 100000 in
theorem lhits_any {Bd : Nat} {w : World} (tb fl lo hi tt : ByteArray) (sh : Bool) (t : V.Tr) (x : V.Ad) (u : V.Tr) (y : V.Ad) (was is : Bool) (hL : V.Lies Bd w t x) (hM : V.Lies Bd w u y) (hB : Bd ≤ w.heap.size) (hG : Good t) (hU : Good u) :
    Calls Tryd.prog 10 #[.agg (rdA tb fl lo hi), .agg (thA tt sh t x u y was is)] w fun e w' => e = .returned (.bool (hitB tb fl lo hi tt sh t u was is)) ∧ Below w.heap.size w w' := by
  have kt : ∀ W, Below w.heap.size w W → Calls Tryd.prog 25 #[.agg (rdA tb fl lo hi), t.val x] W fun e w' => e = .returned (.bool (seeB fl lo hi t)) ∧ Below W.heap.size W w' := fun W hb => sees_any tb fl lo hi t x (hL.later (hb.mono hB)) (Nat.le_trans hB hb.size) hG
  have ku : ∀ W, Below w.heap.size w W → Calls Tryd.prog 25 #[.agg (rdA tb fl lo hi), u.val y] W fun e w' => e = .returned (.bool (seeB fl lo hi u)) ∧ Below W.heap.size W w' := fun W hb => sees_any tb fl lo hi u y (hM.later (hb.mono hB)) (Nat.le_trans hB hb.size) hU
  unfold hitB
  obtain ⟨T, hT⟩ : ∃ T, seeB fl lo hi t = T := ⟨_, rfl⟩
  obtain ⟨U, hU2⟩ : ∃ U, seeB fl lo hi u = U := ⟨_, rfl⟩
  rw [hT] at kt ⊢
  rw [hU2] at ku ⊢
  cases htt : (tb.toList == tt.toList) with
  | false => exact lhit_else tb fl lo hi tt sh was is t x u y htt
  | true =>
    cases sh with
    | true => exact lhit_shape tb fl lo hi tt was is t x u y htt
    | false =>
      cases was with
      | true => exact lhit_old tb fl lo hi tt is t x u y htt T kt U ku
      | false =>
        cases is with
        | true => exact lhit_new tb fl lo hi tt t x u y htt U ku
        | false => exact lhit_none tb fl lo hi tt t x u y htt
end Go.Proofs.YtfcenidepkjdcaaDoor
