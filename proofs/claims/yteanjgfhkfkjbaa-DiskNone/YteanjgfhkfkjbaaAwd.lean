/- The laws' awake: what of a file is there behind a loss of power that keeps its third sector. -/
import Derived.Test.YteanjgfhkfkjbaaCra
import Derived.Test.YteanjgfhkfkjbaaTxt
import Derived.Test.YteanjgfhkfkjbaaDk4
namespace Go.Proofs.Yteanjgfhkfkjbaa
open Go.RowKit Go.Shelf
def sE : ByteArray := ⟨(List.replicate 128 (0 : UInt8) ++ List.replicate 22 (97 : UInt8)).toArray⟩
theorem sE_size : sE.size = 150 := by decide +kernel
theorem sE_cells : Lib.strCells sE = List.replicate 128 (.int .u8 0) ++ List.replicate 22 (.int .u8 97) := by
  unfold Lib.strCells sE
  rw [List.toList_toArray, List.map_append, List.map_replicate, List.map_replicate]
  rfl
theorem cut_cells (cur : Array Value) (h : cur.toList.take 150 = List.replicate 150 (Value.int .u8 97)) : (zerosC (zerosC cur 0 64) 64 64).toList.take 150 = List.replicate 128 (.int .u8 0) ++ List.replicate 22 (.int .u8 97) := by
  have h1 : (zerosC cur 0 64).toList = List.replicate 64 (.int .u8 0) ++ cur.toList.drop 64 := by simp [zerosC]
  have h2 : (zerosC (zerosC cur 0 64) 64 64).toList = List.replicate 128 (.int .u8 0) ++ cur.toList.drop 128 := by
    show (List.take 64 (zerosC cur 0 64).toList ++ List.replicate 64 (Value.int .u8 0) ++ List.drop (64 + 64) (zerosC cur 0 64).toList).toArray.toList = _
    rw [h1, List.take_append_of_le_length (by simp), List.take_of_length_le (by simp), List.drop_append, List.drop_of_length_le (by simp)]
    simp only [List.length_replicate, List.nil_append, List.drop_drop]
    rw [List.replicate_append_replicate]
  rw [h2, List.take_append]
  have h3 : (cur.toList.drop 128).take 22 = List.replicate 22 (.int .u8 97) := by
    have e : (cur.toList.drop 128).take 22 = (cur.toList.take 150).drop 128 := by rw [List.drop_take]
    rw [e, h]
    simp
  rw [List.take_of_length_le (by simp)]
  simp only [List.length_replicate, Nat.reduceSub]
  rw [h3]
theorem iE0 (w : World) : (Instr.index 9 (.string sE) (.int .i64 0)).run Try.prog w = .ok (.int .u8 0) w := by kernel_rfl
theorem iE1 (w : World) : (Instr.index 9 (.string sE) (.int .i64 127)).run Try.prog w = .ok (.int .u8 0) w := by kernel_rfl
theorem iE2 (w : World) : (Instr.index 9 (.string sE) (.int .i64 128)).run Try.prog w = .ok (.int .u8 97) w := by kernel_rfl
set_option maxRecDepth 100000 in
set_option maxHeartbeats 4000000 in
theorem awake_any (w : World) : Calls Try.prog 8 #[] w fun e w' => e = .returned (.bool true) ∧ Below w.heap.size w w' := by
  have kn := new_ok 9 (by omega) w
  obtain ⟨w1, hw1⟩ : ∃ w1, w.alloc (.cells #[.map none, .int .i64 9, .int .i64 0, .int .i64 0, .slice none 0 0, .bool false] 78) = w1 := ⟨_, rfl⟩
  rw [hw1] at kn
  have hb1 : Below w.heap.size w w1 := by rw [← hw1]; exact (Below.refl _ w).alloc (Nat.le_refl _) _
  have h1 : Dk w1 w.heap.size (.map none) 9 0 0 (.slice none 0 0) false := by rw [← hw1]; exact heap_alloc_new _ _
  have kt := text_any 97 150 (by omega) (by omega) w1
  clear hw1
  go_enter Try.func8, Try.ntmps8
  go_wp2_with fail
  refine kn.mono ?_
  rintro e w1b ⟨rfl, hq⟩
  rw [hq]
  clear hq
  go_wp2_with fail
  refine kt.mono ?_
  rintro e w2 ⟨rfl, hb2⟩
  have h2 : Dk w2 w.heap.size (.map none) 9 0 0 (.slice none 0 0) false := (hb2.block _ (lt_of_row h1)).trans h1
  have ka := append_new (sec := 9) 1 ⟨by omega, by omega⟩ (by omega) (repB 97 150) (by rw [repB_size]; omega) (by rw [repB_size]; omega) (by rw [repB_size]; decide) w2 h2
  have lt2 := lt_of_row h2
  rw [repB_size, repB_cells] at ka
  rw [show secN ((150 : Nat) : Int) = 3 from by decide] at ka
  obtain ⟨R, hR⟩ : ∃ R, repB 97 150 = R := ⟨_, rfl⟩
  rw [hR] at ka ⊢
  go_wp2_with fail
  refine ka.mono ?_
  rintro e w3 ⟨rfl, v, h3, m3, F3, own3, C3⟩
  obtain ⟨g, cap, rfl⟩ : ∃ g cap, v = .slice (some ⟨g, 0, none⟩) 150 cap := ownsRow_succ own3
  rcases own3.2 with ⟨h, _⟩ | ⟨g', cp, cur, eq, hg0, hg, hc1, hc2, hc3, hc4⟩
  · cases h
  injection eq with eq1 _ eq3
  injection eq1 with eq1
  injection eq1 with eq1
  subst eq1 eq3
  have kc := crash_aw (w := w3) (d := w.heap.size) (m := w2.heap.size) (f := w2.heap.size + 1) (g := g) (cap := cap) (cur := cur) 1 ⟨by omega, by omega⟩ h3 m3 F3 hg (by simpa using hc3) ⟨hc1, hc2⟩ (by omega) (by omega) (by omega) (by omega) (by omega) (by omega)
  clear ka kt kn
  go_wp2_with fail
  refine kc.mono ?_
  rintro e w4 ⟨rfl, h4, F4, g4, m4, C4⟩
  go_wp2_with fail
  refine (up_any w4 h4).mono ?_
  rintro e w5 ⟨rfl, h5, C5⟩
  have F5 : Fl w5 (w2.heap.size + 1) (.slice (some ⟨g, 0, none⟩) 150 cap) 150 (.map none) := (C5.block _ (lt_of_row F4) (by show _ ≠ _; omega)).trans F4
  have g5 := (C5.block _ (lt_of_row g4) (by show _ ≠ _; omega)).trans g4
  have m5 : Mp w5 w2.heap.size 1 (D1 1 (.lit (.int .u64 ((w2.heap.size + 1 : Nat) : Int)))) := mp_kept m4 (C5.block _ m4.lt (by show _ ≠ _; omega))
  have hcc : cur.size = cap := by simpa using hc3
  have own5 : w5.ownsRow 0 5 1 (.slice (some ⟨g, 0, none⟩) 150 cap) sE.size (Lib.strCells sE) := by
    rw [sE_size, sE_cells]
    refine ⟨by simp, Or.inr ⟨g, cap, _, rfl, Nat.zero_le _, g5, hc1, hc2, ?_, ?_⟩⟩
    · rw [zerosC_size _ _ _ (by rw [zerosC_size _ _ _ (by omega)]; omega), zerosC_size _ _ _ (by omega)]
      omega
    · exact cut_cells cur hc4
  have kr := read_one 1 ⟨by omega, by omega⟩ sE (by rw [sE_size]; omega) w5 h5 m5 (at_one 1 _) F5 own5
  have i0 := iE0 w5
  have i1 := iE1 w5
  have i2 := iE2 w5
  have hlen := sE_size
  obtain ⟨S, hS⟩ : ∃ S, sE = S := ⟨_, rfl⟩
  rw [hS] at kr i0 i1 i2 hlen
  clear hS kc own5
  go_wp2_with fail
  refine kr.mono ?_
  rintro e w6 ⟨rfl, hq⟩
  rw [hq]
  clear hq
  go_wp2
  go_ret
  refine ⟨rfl, ?_⟩
  have b2 : Below w.heap.size w w2 := hb1.trans (hb2.mono hb1.size)
  have b3 : Below w.heap.size w w3 := b2.trans (C3.below b2.size (fun j hj => by show w.heap.size ≤ j; have : j = w.heap.size := hj; omega))
  have b4 : Below w.heap.size w w4 := b3.trans (C4.below b3.size (fun j hj => by have := b2.size; omega))
  exact b4.trans (C5.below b4.size (fun j hj => by have : j = w.heap.size := hj; omega))
end Go.Proofs.Yteanjgfhkfkjbaa
