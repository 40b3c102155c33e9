/- Whether a touch hits a look (ranges.Hits): of documents that may be. Documents with one field: made by the laws' own functions. -/
import Derived.Test.YtfcenidepkjdcaaDoorXaq
import Derived.Test.YtfcenidepkjdcaaDoorXar
import Derived.Test.YtfcenidepkjdcaaDoorVStr
namespace Go.Proofs.YtfcenidepkjdcaaDoor
open Go.RowKit Go.Shelf
attribute [local go_sem] Oper.semAt_some
set_option maxRecDepth 100000 in
set_option maxHeartbeats 8000000 in
theorem hit_else {w : World} (tb fl lo hi tt : ByteArray) (sh : Bool) (t : V.Tr) (x : V.Ad) (u : V.Tr) (y : V.Ad) (was is : Bool) (htt : (tb.toList == tt.toList) = false) :
    Calls Tryd.prog 9 #[.agg #[.string tb, .string fl, .string lo, .string hi], .agg #[.string tt, .bool sh, .int .i64 t.k, .bool t.b, .int .i64 t.n, .string t.s, .slice x.pa t.m x.pc, .slice x.na t.q x.nc, .int .i64 u.k, .bool u.b, .int .i64 u.n, .string u.s, .slice y.pa u.m y.pc, .slice y.na u.q y.nc, .bool was, .bool is]] w fun e w' => e = .returned (.bool false) ∧ Below w.heap.size w w' := by
  go_enter Tryd.func9, Tryd.ntmps9
  go_wp2
  go_ret
  exact ⟨rfl, ((Below.refl _ w).alloc (Nat.le_refl _) _).alloc (by simp) _⟩
set_option maxRecDepth 100000 in
theorem hits_any {Bd : Nat} {w : World} (tb fl lo hi tt : ByteArray) (sh : Bool) (t : V.Tr) (x : V.Ad) (u : V.Tr) (y : V.Ad) (was is : Bool) (hL : V.Lies Bd w t x) (hM : V.Lies Bd w u y) (hB : Bd ≤ w.heap.size) (hg : V.Gm w) (hG : Good t) (hU : Good u) :
    Calls Tryd.prog 9 #[.agg (rdA tb fl lo hi), .agg (thA tt sh t x u y was is)] w fun e w' => e = .returned (.bool (hitB tb fl lo hi tt sh t u was is)) ∧ Below w.heap.size w w' := by
  unfold hitB seeB
  cases htt : (tb.toList == tt.toList) with
  | false => exact hit_else tb fl lo hi tt sh t x u y was is htt
  | true =>
    cases hfl : fl.toList.isEmpty with
    | true =>
      cases sh with
      | true => exact hit_all_shape tb fl lo hi tt was is t x u y htt hfl
      | false =>
        cases was with
        | true => exact hit_all_old tb fl lo hi tt is t x u y htt hfl
        | false =>
          cases is with
          | true => exact hit_all_new tb fl lo hi tt t x u y htt hfl
          | false => exact hit_all_none tb fl lo hi tt t x u y htt hfl
    | false =>
      have kt : ∀ W z, W.heap[z]? = some (.cells (rdA tb fl lo hi) 25 (0, 0)) → Below w.heap.size w W → Calls Tryd.prog 43 #[t.val x, .pointer (some ⟨z, 0, none⟩)] W fun e w' => e = .returned (.bool (V.hasB lo hi (keyB t fl))) ∧ Below W.heap.size W w' := fun W z hz hb => some_seen tb fl lo hi t x hz (hL.later (hb.mono hB)) (Nat.le_trans hB hb.size) (hg.later hb hg.pos) hG
      have ku : ∀ W z, W.heap[z]? = some (.cells (rdA tb fl lo hi) 25 (0, 0)) → Below w.heap.size w W → Calls Tryd.prog 43 #[u.val y, .pointer (some ⟨z, 0, none⟩)] W fun e w' => e = .returned (.bool (V.hasB lo hi (keyB u fl))) ∧ Below W.heap.size W w' := fun W z hz hb => some_seen tb fl lo hi u y hz (hM.later (hb.mono hB)) (Nat.le_trans hB hb.size) (hg.later hb hg.pos) hU
      cases sh with
      | true => exact hit_some_shape tb fl lo hi tt was is t x u y htt hfl _ _ kt ku
      | false =>
        cases was with
        | true => exact hit_some_old tb fl lo hi tt is t x u y htt hfl _ _ kt ku
        | false =>
          cases is with
          | true => exact hit_some_new tb fl lo hi tt t x u y htt hfl _ _ kt ku
          | false => exact hit_some_none tb fl lo hi tt t x u y htt hfl _ _ kt ku
end Go.Proofs.YtfcenidepkjdcaaDoor
namespace Go.Proofs.YtfcenidepkjdcaaDoor
open Go.RowKit Go.Shelf
attribute [local go_sem] Oper.semAt_some
def aB : ByteArray := ⟨#[97]⟩
def aT (n : Int) : V.Tr := V.structT (fun _ => aB) (fun _ => V.leafT 2 false n ⟨#[]⟩) (V.osF (fun _ => aB) 0) 1
theorem aT_small (n : Int) : V.small (aT n) := ⟨by decide, fun _ _ => ⟨by decide, fun i hi => absurd hi (Nat.not_lt_zero i)⟩⟩
theorem leaf_slim (k n : Int) (b : Bool) (s : ByteArray) : V.slimq (V.leafT k b n s) := ⟨by omega, by omega, fun i hi => absurd hi (Nat.not_lt_zero i)⟩
theorem aT_slimq (n : Int) : V.slimq (aT n) := ⟨by decide, by decide, fun _ _ => leaf_slim _ _ _ _⟩
theorem aT_slim (n : Int) : V.slim (aT n) := ⟨by decide, fun _ _ => ⟨by decide, fun i hi => absurd hi (Nat.not_lt_zero i)⟩⟩
set_option maxRecDepth 100000 in
theorem struct_one {w : World} (nb pb : Nat) (n : Int) (hn : w.heap[nb]? = some (.cells #[.string aB] 9 (0, 0))) (hp : w.heap[pb]? = some (.cells #[.int .i64 2, .bool false, .int .i64 n, .string ⟨#[]⟩, .slice none 0 0, .slice none 0 0] 29 (0, 0))) (hn1 : -9223372036854775808 ≤ n ∧ n < 9223372036854775808) :
    Calls Tryd.prog 16 #[.slice (some ⟨nb, 0, none⟩) 1 1, .slice (some ⟨pb, 0, none⟩) 1 1] w fun e w' => ∃ A', e = .returned ((aT n).val A') ∧ V.LiesS (fun k => w.heap.size ≤ k ∧ k < w'.heap.size) w' (aT n) A' ∧ Below w.heap.size w w' := by
  refine V.struct_any (B := w.heap.size) (g := fun _ => aB) (f := fun _ => V.leafT 2 false n ⟨#[]⟩) (A := fun _ => ⟨none, 0, none, 0⟩) 0 (by omega) (by decide) (Nat.le_refl _) (lt_of_row hn) (fun i hi => ?_) (fun i _ => by decide) (lt_of_row hp) (fun i hi => ?_) (fun i hi => ?_) (fun i hi => leaf_slim _ _ _ _)
  · obtain rfl : i = 0 := by omega
    exact cell_of_row w nb 0 _ _ _ hn
  · obtain rfl : i = 0 := by omega
    exact ⟨cell_of_row w pb 0 _ _ _ hp, cell_of_row w pb 1 _ _ _ hp, cell_of_row w pb 2 _ _ _ hp, cell_of_row w pb 3 _ _ _ hp, cell_of_row w pb 4 _ _ _ hp, cell_of_row w pb 5 _ _ _ hp⟩
  · refine .mk (fun _ => ⟨none, 0, none, 0⟩) ⟨by omega, by omega⟩ hn1 (by decide) ⟨Nat.le_refl _, Nat.zero_le _⟩ (fun h => absurd h (by omega)) (fun i hi => absurd hi (Nat.not_lt_zero i)) ⟨Nat.le_refl _, Nat.zero_le _, fun i hi => absurd hi (Nat.not_lt_zero i), fun h => absurd h (by omega)⟩
set_option maxRecDepth 100000 in
set_option maxHeartbeats 4000000 in
theorem doc_awake (n : Int) (hn : -9223372036854775808 ≤ n ∧ n < 9223372036854775808) (w : World) : Calls Tryd.prog 23 #[.int .i64 n] w fun e w' => (∃ v, e = .returned v ∧ LyV (aT n) v w') ∧ Below w.heap.size w w' := by
  obtain ⟨w2, hw2⟩ : ∃ w2, (w.alloc (.cells #[.int .i64 0, .bool false, .int .i64 0, .string ⟨#[]⟩, .slice none 0 0, .slice none 0 0] 29)).alloc (.cells #[.string ⟨#[97]⟩] 9) = w2 := ⟨_, rfl⟩
  have hb2 : Below w.heap.size w w2 := by rw [← hw2]; exact ((Below.refl _ w).alloc (Nat.le_refl _) _).alloc (by simp) _
  have s2 : w2.heap.size = w.heap.size + 2 := by rw [← hw2]; simp
  have z2 : w2.heap[w.heap.size]? = some (.cells #[.int .i64 0, .bool false, .int .i64 0, .string ⟨#[]⟩, .slice none 0 0, .slice none 0 0] 29 (0, 0)) := by rw [← hw2]; exact (Below.heap_alloc _ _ _ (by simp)).trans (heap_alloc_new _ _)
  have n2 : w2.heap[w.heap.size + 1]? = some (.cells #[.string aB] 9 (0, 0)) := by
    rw [← hw2]
    have := heap_alloc_new (w.alloc (.cells #[.int .i64 0, .bool false, .int .i64 0, .string ⟨#[]⟩, .slice none 0 0, .slice none 0 0] 29)) (.cells #[.string aB] 9)
    simpa [aB] using this
  have HW : Hid ((w.alloc (.cells #[.int .i64 0, .bool false, .int .i64 0, .string ⟨#[]⟩, .slice none 0 0, .slice none 0 0] 29)).alloc (.cells #[.string ⟨#[97]⟩] 9) = w2) := hw2
  clear hw2
  have kv : Calls Tryd.prog 17 #[.int .i64 n] w2 fun r w' => r = .returned (.agg #[.int .i64 2, .bool false, .int .i64 n, .string ⟨#[]⟩, .slice none 0 0, .slice none 0 0]) ∧ Below w2.heap.size w2 w' := V.vint n w2
  have HN : Hid (-9223372036854775808 ≤ n ∧ n < 9223372036854775808) := hn
  clear hn
  go_enter Tryd.func23, Tryd.ntmps23
  go_wp2_with fail
  rw [HW.out]
  refine kv.mono ?_
  rintro e w3 ⟨rfl, hb3⟩
  obtain ⟨w4, hw4⟩ : ∃ w4, w3.alloc (.cells #[.int .i64 2, .bool false, .int .i64 n, .string ⟨#[]⟩, .slice none 0 0, .slice none 0 0] 29) = w4 := ⟨_, rfl⟩
  have hb4 : Below w3.heap.size w3 w4 := by rw [← hw4]; exact (Below.refl _ w3).alloc (Nat.le_refl _) _
  have p4 : w4.heap[w3.heap.size]? = some (.cells #[.int .i64 2, .bool false, .int .i64 n, .string ⟨#[]⟩, .slice none 0 0, .slice none 0 0] 29 (0, 0)) := by rw [← hw4]; exact heap_alloc_new _ _
  have hb24 : Below w2.heap.size w2 w4 := hb3.trans (hb4.mono hb3.size)
  have z4 := (hb24.block _ (lt_of_row z2)).trans z2
  have n4 := (hb24.block _ (lt_of_row n2)).trans n2
  have hbw4 : Below w.heap.size w w4 := hb2.trans (hb24.mono (by omega))
  have HX : Hid (w3.alloc (.cells #[.int .i64 2, .bool false, .int .i64 n, .string ⟨#[]⟩, .slice none 0 0, .slice none 0 0] 29) = w4) := hw4
  have ks := struct_one (w.heap.size + 1) w3.heap.size n n4 p4 HN.out
  obtain ⟨T, hT⟩ : ∃ T, aT n = T := ⟨_, rfl⟩
  rw [hT] at ks
  clear hw4 n4 p4 n2 z2 hb3 hb4 kv HN
  go_wp2_with fail
  rw [HX.out]
  refine ks.mono ?_
  rintro e w5 ⟨A, rfl, hA, hb5⟩
  have HZ : Hid (w5.heap[w.heap.size]? = some (.cells #[.int .i64 0, .bool false, .int .i64 0, .string ⟨#[]⟩, .slice none 0 0, .slice none 0 0] 29 (0, 0)) ∧ Below w.heap.size w w5) := ⟨(hb5.block _ (lt_of_row z4)).trans z4, hbw4.trans (hb5.mono hbw4.size)⟩
  have s4 := hbw4.size
  have l4 := lt_of_row z4
  have kA : V.LiesS (fun k => w4.heap.size ≤ k ∧ k < w5.heap.size) w5 T A := hA
  clear hb5 z4 hbw4 HX HW ks hb24 hb2 hA
  unfold V.Tr.val
  go_wp2_with (first | (refine wpList_put rfl 29 (.tmp 2) (.tmp 7) rfl rfl rfl rfl HZ.out.1 rfl info34 (by simp [Value.oneCell']) ?_) | fail)
  refine bodyPost_ret (results_cell_row Tryd.results23 _ _ w.heap.size 29 _ (0, 0) _ rfl (put_row _ HZ.out.1 rfl) Tryd.underlying29 rfl info34) rfl ⟨⟨_, rfl, ?_⟩, put_below HZ.out.2 _ (Nat.le_refl _) _⟩
  rw [hT]
  refine ⟨A, rfl, (kA.kept (fun k hk => put_other (by omega) _)).up (fun k hk => ?_)⟩
  rw [put_size]
  exact hk.2
set_option maxRecDepth 100000 in
set_option maxHeartbeats 4000000 in
theorem doc_sound (n : Int) (hn : -9223372036854775808 ≤ n ∧ n < 9223372036854775808) (w : World) : Calls Tryd.prog 15 #[.int .i64 n] w fun e w' => (∃ v, e = .returned v ∧ LyV (aT n) v w') ∧ Below w.heap.size w w' := by
  obtain ⟨w2, hw2⟩ : ∃ w2, (w.alloc (.cells #[.int .i64 0, .bool false, .int .i64 0, .string ⟨#[]⟩, .slice none 0 0, .slice none 0 0] 29)).alloc (.cells #[.string ⟨#[97]⟩] 9) = w2 := ⟨_, rfl⟩
  have hb2 : Below w.heap.size w w2 := by rw [← hw2]; exact ((Below.refl _ w).alloc (Nat.le_refl _) _).alloc (by simp) _
  have s2 : w2.heap.size = w.heap.size + 2 := by rw [← hw2]; simp
  have z2 : w2.heap[w.heap.size]? = some (.cells #[.int .i64 0, .bool false, .int .i64 0, .string ⟨#[]⟩, .slice none 0 0, .slice none 0 0] 29 (0, 0)) := by rw [← hw2]; exact (Below.heap_alloc _ _ _ (by simp)).trans (heap_alloc_new _ _)
  have n2 : w2.heap[w.heap.size + 1]? = some (.cells #[.string aB] 9 (0, 0)) := by
    rw [← hw2]
    have := heap_alloc_new (w.alloc (.cells #[.int .i64 0, .bool false, .int .i64 0, .string ⟨#[]⟩, .slice none 0 0, .slice none 0 0] 29)) (.cells #[.string aB] 9)
    simpa [aB] using this
  have HW : Hid ((w.alloc (.cells #[.int .i64 0, .bool false, .int .i64 0, .string ⟨#[]⟩, .slice none 0 0, .slice none 0 0] 29)).alloc (.cells #[.string ⟨#[97]⟩] 9) = w2) := hw2
  clear hw2
  have kv : Calls Tryd.prog 17 #[.int .i64 n] w2 fun r w' => r = .returned (.agg #[.int .i64 2, .bool false, .int .i64 n, .string ⟨#[]⟩, .slice none 0 0, .slice none 0 0]) ∧ Below w2.heap.size w2 w' := V.vint n w2
  have HN : Hid (-9223372036854775808 ≤ n ∧ n < 9223372036854775808) := hn
  clear hn
  go_enter Tryd.func15, Tryd.ntmps15
  go_wp2_with fail
  rw [HW.out]
  refine kv.mono ?_
  rintro e w3 ⟨rfl, hb3⟩
  obtain ⟨w4, hw4⟩ : ∃ w4, w3.alloc (.cells #[.int .i64 2, .bool false, .int .i64 n, .string ⟨#[]⟩, .slice none 0 0, .slice none 0 0] 29) = w4 := ⟨_, rfl⟩
  have hb4 : Below w3.heap.size w3 w4 := by rw [← hw4]; exact (Below.refl _ w3).alloc (Nat.le_refl _) _
  have p4 : w4.heap[w3.heap.size]? = some (.cells #[.int .i64 2, .bool false, .int .i64 n, .string ⟨#[]⟩, .slice none 0 0, .slice none 0 0] 29 (0, 0)) := by rw [← hw4]; exact heap_alloc_new _ _
  have hb24 : Below w2.heap.size w2 w4 := hb3.trans (hb4.mono hb3.size)
  have z4 := (hb24.block _ (lt_of_row z2)).trans z2
  have n4 := (hb24.block _ (lt_of_row n2)).trans n2
  have hbw4 : Below w.heap.size w w4 := hb2.trans (hb24.mono (by omega))
  have HX : Hid (w3.alloc (.cells #[.int .i64 2, .bool false, .int .i64 n, .string ⟨#[]⟩, .slice none 0 0, .slice none 0 0] 29) = w4) := hw4
  have ks := struct_one (w.heap.size + 1) w3.heap.size n n4 p4 HN.out
  obtain ⟨T, hT⟩ : ∃ T, aT n = T := ⟨_, rfl⟩
  rw [hT] at ks
  clear hw4 n4 p4 n2 z2 hb3 hb4 kv HN
  go_wp2_with fail
  rw [HX.out]
  refine ks.mono ?_
  rintro e w5 ⟨A, rfl, hA, hb5⟩
  have HZ : Hid (w5.heap[w.heap.size]? = some (.cells #[.int .i64 0, .bool false, .int .i64 0, .string ⟨#[]⟩, .slice none 0 0, .slice none 0 0] 29 (0, 0)) ∧ Below w.heap.size w w5) := ⟨(hb5.block _ (lt_of_row z4)).trans z4, hbw4.trans (hb5.mono hbw4.size)⟩
  have s4 := hbw4.size
  have l4 := lt_of_row z4
  have kA : V.LiesS (fun k => w4.heap.size ≤ k ∧ k < w5.heap.size) w5 T A := hA
  clear hb5 z4 hbw4 HX HW ks hb24 hb2 hA
  unfold V.Tr.val
  go_wp2_with (first | (refine wpList_put rfl 29 (.tmp 2) (.tmp 7) rfl rfl rfl rfl HZ.out.1 rfl info34 (by simp [Value.oneCell']) ?_) | fail)
  refine bodyPost_ret (results_cell_row Tryd.results15 _ _ w.heap.size 29 _ (0, 0) _ rfl (put_row _ HZ.out.1 rfl) Tryd.underlying29 rfl info34) rfl ⟨⟨_, rfl, ?_⟩, put_below HZ.out.2 _ (Nat.le_refl _) _⟩
  rw [hT]
  refine ⟨A, rfl, (kA.kept (fun k hk => put_other (by omega) _)).up (fun k hk => ?_)⟩
  rw [put_size]
  exact hk.2
set_option maxRecDepth 100000 in
theorem aT_good1 : Good (aT 1) := ⟨by decide +kernel, aT_small 1, aT_slimq 1, aT_slim 1⟩
set_option maxRecDepth 100000 in
theorem aT_good2 : Good (aT 2) := ⟨by decide +kernel, aT_small 2, aT_slimq 2, aT_slim 2⟩
end Go.Proofs.YtfcenidepkjdcaaDoor
