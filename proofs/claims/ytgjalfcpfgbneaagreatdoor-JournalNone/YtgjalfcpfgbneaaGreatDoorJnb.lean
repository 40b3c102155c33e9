/- JournalNone: no journal, no disk, a dead one, a body that is too long. -/
import Derived.Test.YtgjalfcpfgbneaaGreatDoorJna
import Derived.Laws.OwnMore
namespace Go.Proofs.YtgjalfcpfgbneaaGreatDoor
open Go.RowKit Go.Shelf
set_option maxRecDepth 20000 in
set_option maxHeartbeats 1000000 in
theorem nat_nil2 (n : Int) (w : World) : Calls Tryz.prog 22 #[.pointer none, .int .i64 n] w fun e w' => e = .returned (.tuple #[.agg #[.int .i64 0, .int .i64 0, .string ⟨#[]⟩, .bool false], .bool false]) ∧ Below w.heap.size w w' := by
  have k := nlen
  by_cases h : n < 0
  · have h1 : decide (n < 0) = true := decide_eq_true h
    go_enter Tryz.func22, Tryz.ntmps22
    go_wp2
    refine bodyPost_ret (v := .tuple #[.agg #[.int .i64 0, .int .i64 0, .string ⟨#[]⟩, .bool false], .bool false]) (by rw [results_cell_tmp Tryz.results22]; simp [asAddr, go_sem]) rfl ⟨rfl, ?_⟩
    exact (Below.refl _ w).alloc (Nat.le_refl _) _
  · have h1 : decide (n < 0) = false := decide_eq_false h
    have h2 : 0 ≤ n := by omega
    go_enter Tryz.func22, Tryz.ntmps22
    go_wp2_with fail
    refine (k _).mono ?_
    rintro e w1 ⟨rfl, rfl⟩
    go_wp2
    refine bodyPost_ret (v := .tuple #[.agg #[.int .i64 0, .int .i64 0, .string ⟨#[]⟩, .bool false], .bool false]) (by rw [results_cell_tmp Tryz.results22]; simp [asAddr, go_sem]) rfl ⟨rfl, ?_⟩
    exact (Below.refl _ w).alloc (Nat.le_refl _) _
theorem made_text (n : Nat) (w : World) : (convert 65 9 (.slice (some ⟨w.heap.size, 0, none⟩) n n)).run Tryz.prog (w.alloc (.cells (madeCells (Value.cells (.int .u8 0)) (n * 1)) 5)) = .ok (.string ⟨(List.replicate n (0 : UInt8)).toArray⟩) (w.alloc (.cells (madeCells (Value.cells (.int .u8 0)) (n * 1)) 5)) := by
  have hz : Value.cells (.int .u8 0) = #[.int .u8 0] := rfl
  rw [hz]
  have := run_convert_bytes_back (P := Tryz.prog) (w.alloc (.cells (madeCells #[.int .u8 0] (n * 1)) 5)) 65 9 5 ⟨w.heap.size, 0, none⟩ n (List.replicate n (0 : UInt8)) Tryz.underlying65 Tryz.underlying5 Tryz.underlying9 (fun j hj => by
    have e : (⟨w.heap.size, 0, none⟩ : Addr).add j = ⟨w.heap.size, j, none⟩ := by unfold Addr.add; split <;> simp_all
    have hj' : j < n := by simpa using hj
    rw [e, cell_of_row _ _ j _ _ _ (heap_alloc_new w _), ← Array.getElem?_toList, toList_madeCells_one]
    simp [hj'])
  rw [List.length_replicate] at this
  exact this
theorem made_run (n : Nat) (h0 : 0 < n) (hn : n ≤ 1000000) (w : World) : (Instr.makeSlice 65 (.int .i64 (n : Int)) (.int .i64 (n : Int))).run Tryz.prog w = .ok (.slice (some ⟨w.heap.size, 0, none⟩) n n) (w.alloc (.cells (madeCells (Value.cells (.int .u8 0)) (n * 1)) 5)) := by
  obtain ⟨i5, hi5, hx0, hx1, hx2⟩ := info_parts info5
  have := run_makeSlice (P := Tryz.prog) w 65 5 i5 _ Tryz.underlying65 hi5 hx0 .i64 .i64 (n : Int) (n : Int) (by omega) (by omega) (by rw [hx1]; simp; omega) (by rw [hx2]; omega) (by omega)
  rw [hx1] at this
  simpa using this
set_option maxRecDepth 100000 in
set_option maxHeartbeats 8000000 in
theorem none_walk (most n : Int) (w : World) (hG : F.GL w) : Calls Tryz.prog 5 #[.int .i64 most, .int .i64 n] w fun e w' => e = .returned (.bool true) ∧ Below w.heap.size w w' := by
  have kn := new_ok 10 (by omega) w
  obtain ⟨w1, hw1⟩ : ∃ w1, w.alloc (.cells #[.map none, .int .i64 10, .int .i64 0, .int .i64 0, .slice none 0 0, .bool false] 69) = w1 := ⟨_, rfl⟩
  have hb1 : Below w.heap.size w w1 := by rw [← hw1]; exact (Below.refl _ w).alloc (Nat.le_refl _) _
  have hd1 : Dk w1 w.heap.size (.map none) 10 0 0 (.slice none 0 0) false := by rw [← hw1]; exact heap_alloc_new _ _
  have hs1 : w1.heap.size = w.heap.size + 1 := by rw [← hw1]; simp
  rw [hw1] at kn
  have kc := crash_new 0 0 hd1
  clear hw1 hd1
  go_enter Tryz.func5, Tryz.ntmps5
  go_wp2_with fail
  refine kn.mono ?_
  rintro e wz ⟨rfl, hq⟩
  rw [hq]
  clear hq
  clear kn
  go_wp2_with fail
  refine kc.mono ?_
  rintro e w2 ⟨rfl, hd2, hc2⟩
  clear kc
  have hb2 : Below w.heap.size w w2 := hb1.trans (hc2.below (by omega) (fun k hk => by omega))
  have hs2 := hc2.size
  clear hc2 hb1
  go_wp2_with fail
  refine (new_ok 10 (by omega) w2).mono ?_
  rintro e w3 ⟨rfl, hw3⟩
  have hb3' : Below w2.heap.size w2 w3 := by rw [hw3]; exact (Below.refl _ w2).alloc (Nat.le_refl _) _
  have hx3 : Dk w3 w2.heap.size (.map none) 10 0 0 (.slice none 0 0) false := by rw [hw3]; exact heap_alloc_new _ _
  have hs3 : w3.heap.size = w2.heap.size + 1 := by rw [hw3]; simp
  have hd3 := (hb3'.block _ (lt_of_row hd2)).trans hd2
  have hb3 : Below w.heap.size w w3 := hb2.trans (hb3'.mono hb2.size)
  clear hw3 hd2 hb3' hb2
  have ko := open_dead w3 hd3
  clear hd3
  go_wp2_with fail
  refine (open_nil w3).mono ?_
  rintro e wz ⟨rfl, hq⟩
  rw [hq]
  clear hq
  go_wp2_with fail
  refine ko.mono ?_
  rintro e wz ⟨rfl, hq⟩
  rw [hq]
  clear hq
  clear ko
  go_wp2_with fail
  by_cases hm : most < 1
  · have hg1 : decide (1 ≤ most) = false := decide_eq_false (by omega)
    have hg2 : decide (most ≥ 1) = false := decide_eq_false (by omega)
    refine (open_few w2.heap.size most hm w3).mono ?_
    rintro e wz ⟨rfl, hq⟩
    rw [hq]
    clear hq
    clear hx3
    go_wp2_with fail
    obtain ⟨w5, hw5⟩ : ∃ w5, w3.alloc (.cells #[.string ⟨#[97]⟩] 9) = w5 := ⟨_, rfl⟩
    have hb5 : Below w3.heap.size w3 w5 := by rw [← hw5]; exact (Below.refl _ w3).alloc (Nat.le_refl _) _
    rw [hw5]
    clear hw5
    refine (nadd _ w5).mono ?_
    rintro e wz ⟨rfl, hq⟩
    rw [hq]
    clear hq
    go_wp2_with fail
    refine (nat_nil2 n w5).mono ?_
    rintro e w6 ⟨rfl, hb6⟩
    obtain ⟨w7, hw7⟩ : ∃ w7, w6.alloc (.cells #[.int .i64 0, .int .i64 0, .string ⟨#[]⟩, .bool false] 60) = w7 := ⟨_, rfl⟩
    have hb7' : Below w6.heap.size w6 w7 := by rw [← hw7]; exact (Below.refl _ w6).alloc (Nat.le_refl _) _
    have HW7 : Hid (w6.alloc (.cells #[.int .i64 0, .int .i64 0, .string ⟨#[]⟩, .bool false] 60) = w7) := hw7
    have hb7 : Below w.heap.size w w7 := ((hb3.trans (hb5.mono hb3.size)).trans (hb6.mono (Nat.le_trans hb3.size hb5.size))).trans (hb7'.mono (Nat.le_trans (Nat.le_trans hb3.size hb5.size) hb6.size))
    have hG7 : F.GL w7 := hG.later rfl hb7
    clear hw7 hb7' hb5 hb6 hb3 hs1 hs2 hs3 hG
    go_wp2_with fail
    rw [HW7.out]
    refine (awake_any w7 hG7).mono ?_
    rintro e w8 ⟨rfl, hb8⟩
    have hb8' : Below w.heap.size w w8 := hb7.trans (hb8.mono hb7.size)
    clear hb7 hb8 hG7
    go_wp2_with fail
    refine (nlen w8).mono ?_
    rintro e wz ⟨rfl, hq⟩
    rw [hq]
    clear hq
    go_wp2_with fail
    refine (nkeep n w8).mono ?_
    rintro e w9 ⟨rfl, hb9⟩
    have hb9' : Below w.heap.size w w9 := hb8'.trans (hb9.mono hb8'.size)
    clear hb8' hb9
    go_wp2_with fail
    refine (nblank n 0 0 w9).mono ?_
    rintro e wz ⟨rfl, hq⟩
    rw [hq]
    clear hq
    go_wp2_with fail
    refine (nfilesJ w9).mono ?_
    rintro e wz ⟨rfl, hq⟩
    rw [hq]
    clear hq
    go_wp2_with fail
    go_ret
    exact ⟨rfl, hb9'⟩
  · have hg1 : decide (1 ≤ most) = true := decide_eq_true (by omega)
    have hg2 : decide (most ≥ 1) = true := decide_eq_true (by omega)
    refine (open_new most (by omega) w3 hx3).mono ?_
    rintro e w4 ⟨rfl, hw4⟩
    have hb4 : Below w3.heap.size w3 w4 := by rw [hw4]; exact (Below.refl _ w3).alloc (Nat.le_refl _) _
    have hj4 : Jr w4 w3.heap.size w2.heap.size most (.slice none 0 0) 0 := by rw [hw4]; exact heap_alloc_new _ _
    rw [hs3] at hj4
    clear hw4 hx3
    go_wp2_with fail
    obtain ⟨w5, hw5⟩ : ∃ w5, w4.alloc (.cells #[.string ⟨#[97]⟩] 9) = w5 := ⟨_, rfl⟩
    have hb5 : Below w4.heap.size w4 w5 := by rw [← hw5]; exact (Below.refl _ w4).alloc (Nat.le_refl _) _
    have hj5 : Jr w5 (w2.heap.size + 1) w2.heap.size most (.slice none 0 0) 0 := (hb5.block _ (lt_of_row hj4)).trans hj4
    rw [hw5]
    clear hw5 hj4
    refine (nadd _ w5).mono ?_
    rintro e wz ⟨rfl, hq⟩
    rw [hq]
    clear hq
    go_wp2_with fail
    refine (nat_nil2 n w5).mono ?_
    rintro e w6 ⟨rfl, hb6⟩
    have hj6 := (hb6.block _ (lt_of_row hj5)).trans hj5
    clear hj5
    obtain ⟨wa, hwa⟩ : ∃ wa, w6.alloc (.cells #[.int .i64 0, .int .i64 0, .string ⟨#[]⟩, .bool false] 60) = wa := ⟨_, rfl⟩
    have hba : Below w6.heap.size w6 wa := by rw [← hwa]; exact (Below.refl _ w6).alloc (Nat.le_refl _) _
    have hsa : wa.heap.size = w6.heap.size + 1 := by rw [← hwa]; simp
    have hja := (hba.block _ (lt_of_row hj6)).trans hj6
    have hmk := made_run 65537 (by omega) (by omega) wa
    have hcv := made_text 65537 wa
    obtain ⟨zs, hzs⟩ : ∃ zs, madeCells (Value.cells (.int .u8 0)) (65537 * 1) = zs := ⟨_, rfl⟩
    obtain ⟨tx, htx⟩ : ∃ tx : ByteArray, ⟨(List.replicate 65537 (0 : UInt8)).toArray⟩ = tx := ⟨_, rfl⟩
    have htl : 65536 < tx.size := by
      rw [← htx]
      show 65536 < (List.replicate 65537 (0 : UInt8)).toArray.size
      rw [List.size_toArray, List.length_replicate]
      omega
    rw [hzs] at hmk hcv
    rw [htx] at hcv
    clear hzs htx
    obtain ⟨wb, hwb⟩ : ∃ wb, wa.alloc (.cells zs 5) = wb := ⟨_, rfl⟩
    have hbb : Below wa.heap.size wa wb := by rw [← hwb]; exact (Below.refl _ wa).alloc (Nat.le_refl _) _
    have hsb : wb.heap.size = w6.heap.size + 1 + 1 := by rw [← hwb]; simp; omega
    have hjb := (hbb.block _ (lt_of_row hja)).trans hja
    obtain ⟨wc, hwc⟩ : ∃ wc, wb.alloc (.cells #[.string tx] 9) = wc := ⟨_, rfl⟩
    have hbc : Below wb.heap.size wb wc := by rw [← hwc]; exact (Below.refl _ wb).alloc (Nat.le_refl _) _
    have hqc : wc.cell? ⟨wb.heap.size, 0, none⟩ = some (.string tx) := by rw [← hwc]; exact cell_of_row _ _ 0 _ _ _ (heap_alloc_new _ _)
    have hsc : wc.heap.size = wb.heap.size + 1 := by rw [← hwc]; simp
    have hjc := (hbc.block _ (lt_of_row hjb)).trans hjb
    have kl := add_long (c := 1) tx htl wc hjc hqc (by omega)
    rw [hsb] at kl
    rw [hwb] at hmk hcv
    rw [hsa] at hmk hcv
    have hmk' : (Instr.makeSlice 65 (.int .i64 65537) (.int .i64 65537)).run Tryz.prog wa = .ok (.slice (some ⟨w6.heap.size + 1, 0, none⟩) 65537 65537) wb := hmk
    have HW : Hid (w6.alloc (.cells #[.int .i64 0, .int .i64 0, .string ⟨#[]⟩, .bool false] 60) = wa ∧ wb.alloc (.cells #[.string tx] 9) = wc) := ⟨hwa, hwc⟩
    rw [← hwa] at hmk'
    have hbt : Below w.heap.size w wc := ((((hb3.trans (hb4.mono hb3.size)).trans (hb5.mono (Nat.le_trans hb3.size hb4.size))).trans (hb6.mono (Nat.le_trans (Nat.le_trans hb3.size hb4.size) hb5.size))).trans (hba.mono (by have := hb3.size; have := hb4.size; have := hb5.size; have := hb6.size; omega))).trans ((hbb.mono (by have := hb3.size; have := hb4.size; have := hb5.size; have := hb6.size; omega)).trans (hbc.mono (by have := hb3.size; have := hb4.size; have := hb5.size; have := hb6.size; omega)))
    clear hwa hwb hwc hba hbb hbc hja hjb hj6 hmk hb4 hb5 hb6 hb3 hs1 hs2 hs3 hqc htl hsa
    go_wp2_with fail
    rw [HW.out.2]
    refine kl.mono ?_
    rintro e w7 ⟨rfl, hb7'⟩
    have hj7 : Jr w7 (w2.heap.size + 1) w2.heap.size most (.slice none 0 0) 0 := (hb7'.block _ (lt_of_row hjc)).trans hjc
    have hb7 : Below w.heap.size w w7 := hbt.trans (hb7'.mono hbt.size)
    have hG7 : F.GL w7 := hG.later rfl hb7
    have kq := jlen w7 hj7
    clear hmk' hcv kl hbt hb7' hj7 hjc hsb hsc hG HW
    go_wp2_with fail
    refine kq.mono ?_
    rintro e wz ⟨rfl, hq⟩
    rw [hq]
    clear hq
    clear kq
    go_wp2_with fail
    refine (awake_any w7 hG7).mono ?_
    rintro e w8 ⟨rfl, hb8⟩
    have hb8' : Below w.heap.size w w8 := hb7.trans (hb8.mono hb7.size)
    clear hb7 hb8 hG7
    go_wp2_with fail
    refine (nlen w8).mono ?_
    rintro e wz ⟨rfl, hq⟩
    rw [hq]
    clear hq
    go_wp2_with fail
    refine (nkeep n w8).mono ?_
    rintro e w9 ⟨rfl, hb9⟩
    have hb9' : Below w.heap.size w w9 := hb8'.trans (hb9.mono hb8'.size)
    clear hb8' hb9
    go_wp2_with fail
    refine (nblank n 0 0 w9).mono ?_
    rintro e wz ⟨rfl, hq⟩
    rw [hq]
    clear hq
    go_wp2_with fail
    refine (nfilesJ w9).mono ?_
    rintro e wz ⟨rfl, hq⟩
    rw [hq]
    clear hq
    go_wp2_with fail
    go_ret
    exact ⟨rfl, hb9'⟩
end Go.Proofs.YtgjalfcpfgbneaaGreatDoor
