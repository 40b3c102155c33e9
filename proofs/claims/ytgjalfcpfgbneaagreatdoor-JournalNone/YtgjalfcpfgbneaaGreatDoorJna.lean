/- Records are there behind a loss of power (awake). -/
import Derived.Test.YtgjalfcpfgbneaaGreatDoorJn9
namespace Go.Proofs.YtgjalfcpfgbneaaGreatDoor
open Go.RowKit Go.Shelf
theorem frT_body (y : ByteArray) : (frT y).extract 12 (frT y).size = y := by
  have h : (frT y).data.toList = F.headL y.data.toList ++ y.data.toList := rfl
  have h2 := frT_size y
  refine (ext_all (frT y) y.data.toList 12 (frT y).size ?_).trans rfl
  rw [h, show (12 : Nat) = (F.headL y.data.toList).length from rfl, List.drop_left, List.take_of_length_le (by rw [h2]; show y.data.toList.length ≤ 12 + y.size - 12; show y.size ≤ _; omega)]
set_option maxRecDepth 100000 in
set_option maxHeartbeats 8000000 in
theorem awake_any (w : World) (hG : F.GL w) : Calls Tryz.prog 8 #[] w fun e w' => e = .returned (.bool true) ∧ Below w.heap.size w w' := by
  have kn := new_ok 100 (by omega) w
  obtain ⟨w1, hw1⟩ : ∃ w1, w.alloc (.cells #[.map none, .int .i64 100, .int .i64 0, .int .i64 0, .slice none 0 0, .bool false] 69) = w1 := ⟨_, rfl⟩
  have hb1 : Below w.heap.size w w1 := by rw [← hw1]; exact (Below.refl _ w).alloc (Nat.le_refl _) _
  have hd1 : Dk w1 w.heap.size (.map none) 100 0 0 (.slice none 0 0) false := by rw [← hw1]; exact heap_alloc_new _ _
  have hs1 : w1.heap.size = w.heap.size + 1 := by rw [← hw1]; simp
  rw [hw1] at kn
  have ko := open_new 50 (by omega) w1 hd1
  obtain ⟨w2, hw2⟩ : ∃ w2, w1.alloc (.cells #[.pointer (some ⟨w.heap.size, 0, none⟩), .int .i64 50, .slice none 0 0, .int .i64 0] 72) = w2 := ⟨_, rfl⟩
  have hb2 : Below w1.heap.size w1 w2 := by rw [← hw2]; exact (Below.refl _ w1).alloc (Nat.le_refl _) _
  have hj2 : Jr w2 w1.heap.size w.heap.size 50 (.slice none 0 0) 0 := by rw [← hw2]; exact heap_alloc_new _ _
  have hs2 : w2.heap.size = w.heap.size + 2 := by rw [← hw2]; simp; omega
  rw [hw2] at ko
  obtain ⟨w3, hw3⟩ : ∃ w3, w2.alloc (.cells #[.string ⟨#[97]⟩, .string ⟨#[98]⟩] 9) = w3 := ⟨_, rfl⟩
  have hb3 : Below w2.heap.size w2 w3 := by rw [← hw3]; exact (Below.refl _ w2).alloc (Nat.le_refl _) _
  have r3 : w3.heap[w2.heap.size]? = some (.cells #[.string ⟨#[97]⟩, .string ⟨#[98]⟩] 9 (0, 0)) := by rw [← hw3]; exact heap_alloc_new _ _
  have hs3 : w3.heap.size = w.heap.size + 3 := by rw [← hw3]; simp; omega
  have hb13 : Below w1.heap.size w1 w3 := hb2.trans (hb3.mono (by omega))
  have hbw3 : Below w.heap.size w w3 := hb1.trans (hb13.mono (by omega))
  have hd3 : Dk w3 w.heap.size (.map none) 100 0 0 (.slice none 0 0) false := (hb13.block _ (by omega)).trans hd1
  have hj3 : Jr w3 w1.heap.size w.heap.size 50 (.slice none 0 0) 0 := (hb3.block _ (by omega)).trans hj2
  have hG3 : F.GL w3 := hG.later rfl hbw3
  have ka := add_two (cq := 2) ⟨#[97]⟩ ⟨#[98]⟩ (by decide) (by decide) w3 hG3 hj3 hd3 (by omega) (cell_of_row _ _ 0 _ _ _ r3) (cell_of_row _ _ 1 _ _ _ r3) (by omega) (by decide)
  have HW3 : Hid (w2.alloc (.cells #[.string ⟨#[97]⟩, .string ⟨#[98]⟩] 9) = w3) := hw3
  have HG0 : F.GL w := hG
  have HB : Hid (Below w.heap.size w w3 ∧ w3.heap.size = w.heap.size + 3 ∧ F.GL w3) := ⟨hbw3, hs3, hG3⟩
  obtain ⟨d, hd⟩ : ∃ d, w.heap.size = d := ⟨_, rfl⟩
  obtain ⟨j, hj⟩ : ∃ j, w1.heap.size = j := ⟨_, rfl⟩
  obtain ⟨q, hq⟩ : ∃ q, w2.heap.size = q := ⟨_, rfl⟩
  rw [hd] at kn ko ka HB ⊢
  rw [hj] at ko ka
  rw [hq] at ka
  have hjd : j = d + 1 := by omega
  have HG : Hid (F.GL w ∧ w.heap.size = d) := ⟨HG0, hd⟩
  clear HG0
  have HQ : Hid (w2.heap.size = q) := hq
  have HJD : Hid (j = d + 1) := hjd
  clear hw1 hb1 hd1 hs1 hw2 hb2 hj2 hs2 hw3 hb3 r3 hs3 hb13 hbw3 hd3 hj3 hG3 hG hd hj hjd
  go_enter Tryz.func8, Tryz.ntmps8
  go_wp2_with fail
  refine kn.mono ?_
  rintro e w1' ⟨rfl, rfl⟩
  go_wp2_with fail
  refine ko.mono ?_
  rintro e w2' ⟨rfl, rfl⟩
  go_wp2_with fail
  try rw [HW3.out]
  refine ka.mono ?_
  rintro e w4 ⟨rfl, m, f, g, cap, base, hd4, hm4, hf4, ho4, hn4, hc4⟩
  clear kn ko ka HW3 HQ hq
  have hz4 := hc4.size
  have hz3 := HB.out.2.1
  have hcap : 24 + (⟨#[97]⟩ : ByteArray).size + (⟨#[98]⟩ : ByteArray).size ≤ cap := by
    rcases ho4.2 with ⟨h1, _⟩ | ⟨g', cap', cur, h1, _, _, h2, _⟩
    · cases h1
    · injection h1 with _ _ h3
      omega
  have kc := crash_sure (L := 24 + (⟨#[97]⟩ : ByteArray).size + (⟨#[98]⟩ : ByteArray).size) 0 0 _ (by decide) rfl 1 ⟨by omega, by omega⟩ hd4 hm4 hf4 hcap (by omega) (by omega) (by omega)
  go_wp2_with fail
  refine kc.mono ?_
  rintro e w5 ⟨rfl, hd5, hf5, hm5, hc5⟩
  have hz5 := hc5.size
  have ho5 := own_same ho4 (fun k hk => hc5.block k (ho4.lt k hk).2 (fun e => by
    have hk' : g = k := by injection hk
    rcases e with e | e <;> omega))
  have ku := up_any w5 hd5
  clear kc
  go_wp2_with fail
  refine ku.mono ?_
  rintro e w6 ⟨rfl, hd6, hc6⟩
  have hz6 := hc6.size
  have hm6 := mp_kept hm5 (hc6.block _ hm5.lt (by omega))
  have hf6 := (hc6.block _ (lt_of_row hf5) (by omega)).trans hf5
  have ho6 := own_same ho5 (fun k hk => hc6.block k (ho5.lt k hk).2 (fun e => by
    have hk' : g = k := by injection hk
    omega))
  have hch : Chg (fun k => d ≤ k) w3 w6 := (((Chg.refl (fun k => d ≤ k) w3).trans hc4 (fun k hk => Or.inl (by show d ≤ k; have := HJD.out; rcases hk with e | e <;> omega))).trans hc5 (fun k hk => Or.inl (by show d ≤ k; have := HJD.out; rcases hk with e | e <;> omega))).trans hc6 (fun k hk => Or.inl (by show d ≤ k; omega))
  have hbl : Below d w w6 := HB.out.1.trans (hch.below (by omega) (fun k hk => hk))
  have hG6 : F.GL w6 := HG.out.1.later HG.out.2.symm hbl
  have kp := open_one 50 (by omega) ⟨#[97]⟩ ⟨#[98]⟩ (by decide) (by decide) w6 hG6 hd6 hm6 hf6 ho6
  clear hch ku
  have HX : Hid (Below d w w6 ∧ w6.heap.size ≥ d) := ⟨hbl, by omega⟩
  clear hbl hG6 hm6 hf6 ho6 hd6 hm5 hf5 ho5 hd5 hm4 hf4 ho4 hd4 hn4 hc4 hc5 hc6
  go_wp2_with fail
  refine kp.mono ?_
  rintro e w7 ⟨rfl, gr, cr, hj7, q0, q1, q2, q3, hb7⟩
  have kt := jat_one (by rw [frT_size]; omega) w7 hj7 q0 q1 q2 q3
  rw [frT_body] at kt
  clear kp q0 q1 q2 q3
  go_wp2_with fail
  refine kt.mono ?_
  rintro e w8 ⟨rfl, hb8⟩
  clear kt
  have hj8 := (hb8.block _ (lt_of_row hj7)).trans hj7
  obtain ⟨w9, hw9⟩ : ∃ w9, w8.alloc (.cells #[.int .i64 1, .int .i64 25, .string ⟨#[98]⟩, .bool true] 60) = w9 := ⟨_, rfl⟩
  have hb9 : Below w8.heap.size w8 w9 := by rw [← hw9]; exact (Below.refl _ w8).alloc (Nat.le_refl _) _
  have r9 : w9.heap[w8.heap.size]? = some (.cells #[.int .i64 1, .int .i64 25, .string ⟨#[98]⟩, .bool true] 60 (0, 0)) := by rw [← hw9]; exact heap_alloc_new _ _
  have hj9 : Jr w9 w6.heap.size d 50 (.slice (some ⟨gr, 0, none⟩) 2 cr) 1 := (hb9.block _ (lt_of_row hj8)).trans hj8
  have p2 := cell_of_row _ _ 2 _ _ _ r9
  have p3 := cell_of_row _ _ 3 _ _ _ r9
  have kl := jlen_at w9 hj9
  have hall : Below d w w9 := HX.out.1.trans ((hb7.trans ((hb8.mono (hb7.size)).trans (hb9.mono (Nat.le_trans hb7.size hb8.size)))).mono HX.out.2)
  have HW9 : Hid (w8.alloc (.cells #[.int .i64 1, .int .i64 25, .string ⟨#[98]⟩, .bool true] 60) = w9) := hw9
  have HAL : Hid (Below d w w9) := hall
  clear hw9 hb9 r9 hj9 hall hj8 hj7 hb7 hb8
  go_wp2_with fail
  rw [HW9.out]
  refine kl.mono ?_
  rintro e w10 ⟨rfl, rfl⟩
  go_wp2_with fail
  go_ret
  exact ⟨rfl, HAL.out⟩
end Go.Proofs.YtgjalfcpfgbneaaGreatDoor
