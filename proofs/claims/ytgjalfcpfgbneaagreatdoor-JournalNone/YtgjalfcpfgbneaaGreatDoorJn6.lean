/- A text of one's own (strings.Clone); the body of a record; how many records; a record. -/
import Derived.Test.YtgjalfcpfgbneaaGreatDoorJn5
import Derived.Lib.SlBuf
import Derived.Lib.BufferWrite
import Derived.Deep.WholeRow
import Derived.Laws.ResultCell
import Derived.Test.YtgjalfcpfgbneaaGreatDoorAny
namespace Go.Proofs.YtgjalfcpfgbneaaGreatDoor
open Go.RowKit Go.Shelf
set_option maxRecDepth 100000 in
set_option maxHeartbeats 4000000 in
theorem sclone78 (s : ByteArray) (h0 : 0 < s.size) (hs : s.size ≤ 1000000) (w : World) : Calls Tryz.prog 78 #[.string s] w fun e w' => e = .returned (.string s) ∧ Below w.heap.size w w' := by
  obtain ⟨i5, hi5, hx0, hx1, hx2⟩ := info_parts info5
  obtain ⟨n, hn⟩ : ∃ n, s.size = n := ⟨_, rfl⟩
  have hmk : (Instr.makeSlice 65 (.int .i64 (n : Int)) (.int .i64 (n : Int))).run Tryz.prog w = .ok (.slice (some ⟨w.heap.size, 0, none⟩) n n) (w.alloc (.cells (madeCells (Value.cells (.int .u8 0)) (n * 1)) 5)) := by
    have := run_makeSlice (P := Tryz.prog) w 65 5 i5 _ Tryz.underlying65 hi5 hx0 .i64 .i64 (n : Int) (n : Int) (by omega) (by omega) (by rw [hx1]; simp; omega) (by rw [hx2]; omega) (by omega)
    rw [hx1] at this
    simpa using this
  obtain ⟨zs, hzs⟩ : ∃ zs, madeCells (Value.cells (.int .u8 0)) (n * 1) = zs := ⟨_, rfl⟩
  have hzn : zs.size = n := by rw [← hzs, size_madeCells]; omega
  rw [hzs] at hmk
  obtain ⟨row, hrow⟩ : ∃ row, (Lib.byteCells s.data.toList).toArray = row := ⟨_, rfl⟩
  have hrn : row.size = n := by rw [← hrow, List.size_toArray, Lib.byteCells_length, ← hn]; rfl
  have hcp : (Builtin.copy_ #[65, 9] 3 #[.slice (some ⟨w.heap.size, 0, none⟩) n n, .string s]).run Tryz.prog (w.alloc (.cells zs 5)) = .ok (.int .i64 (n : Int)) (w.alloc (.cells row 5)) := by
    have := Lib.run_copy_row_string (P := Tryz.prog) (w.alloc (.cells zs 5)) 65 9 3 5 w.heap.size 0 n n s zs 5 Tryz.underlying65 (by rw [hi5]; simp [hx1]) (heap_alloc_new w _) (by omega) (by omega)
    rw [World.setRow_alloc_new] at this
    rw [this]
    have e : (zs.toList.take 0 ++ Lib.byteCells s.data.toList ++ zs.toList.drop (0 + s.size)).toArray = row := by
      rw [← hrow, List.take_zero, List.nil_append, List.drop_of_length_le (by simp [hzn, hn]), List.append_nil]
    rw [e, hn]
    rfl
  have hUS : (Builtin.unsafeString_ #[148, 3] 9 #[.pointer (some ⟨w.heap.size, 0, none⟩), .int .i64 (n : Int)]).run Tryz.prog (w.alloc (.cells row 5)) = .ok (.string s) ((w.alloc (.cells row 5)).freeze ⟨w.heap.size, 0, none⟩ n) := by
    have hl : s.data.toList.length = n := hn
    have hg := heap_alloc_new w (.cells row 5)
    have := Lib.run_unsafeString_row (P := Tryz.prog) (w.alloc (.cells row 5)) 148 3 9 5 Tryz.underlying148 V.cells5 w.heap.size n (by simp only [World.shape?, hg]; simp [hrn]) s.data.toList (by intro e; rw [e] at hl; simp at hl; omega) (by omega) (by omega) (fun j x hx => by
      have e : (⟨w.heap.size, 0, none⟩ : Addr).add j = ⟨w.heap.size, j, none⟩ := by unfold Addr.add; split <;> simp_all
      rw [e, cell_of_row _ _ _ _ _ _ hg, ← hrow]
      simp [Lib.byteCells, hx])
    rw [hl] at this
    exact this
  have h1 : ((n : Int) == 0) = false := by simp; omega
  have h2 : (0 : Int) < (n : Int) := by omega
  have HN : Hid (s.size = n) := hn
  have hsz : (s.size : Int) = (n : Int) := by omega
  clear hzs hrow hi5 hx0 hx1 hx2 hn
  go_enter Tryz.func78, Tryz.ntmps78
  go_wp2_with (first | (at_builtin; refine Lib.wpList_copy_run _ rfl _ _ _ _ rfl _ _ rfl rfl hcp ?_) | fail)
  go_ret
  exact ⟨rfl, Lib.below_freeze ((Below.refl _ w).alloc (Nat.le_refl _) _) (p := ⟨w.heap.size, 0, none⟩) (Nat.le_refl _) _⟩
theorem sclone (s : ByteArray) (h0 : 0 < s.size) (hs : s.size ≤ 1000000) (w : World) : Calls Tryz.prog 50 #[.string s] w fun e w' => e = .returned (.string s) ∧ Below w.heap.size w w' := by
  have k := sclone78 s h0 hs
  go_enter Tryz.func50, Tryz.ntmps50
  go_wp2_with fail
  refine (k _).mono ?_
  rintro e w1 ⟨rfl, hb⟩
  go_wp2
  go_ret
  exact ⟨rfl, hb⟩
theorem body_any (z : Nat) (t : ByteArray) (h12 : 12 ≤ t.size) (w : World) (hz : w.cell? ⟨z, 2, none⟩ = some (.string t)) : Calls Tryz.prog 31 #[.pointer (some ⟨z, 0, none⟩)] w fun e w' => e = .returned (.string (t.extract 12 t.size)) ∧ w' = w := by
  have h1 : (12 : Int) ≤ (t.size : Int) := by omega
  go_enter Tryz.func31, Tryz.ntmps31
  go_wp2
  go_ret
  exact ⟨rfl, rfl⟩
theorem jlen_at {j d n c : Nat} {most files : Int} {p : Option Addr} (w : World) (hj : Jr w j d most (.slice p n c) files) : Calls Tryz.prog 21 #[.pointer (some ⟨j, 0, none⟩)] w fun e w' => e = .returned (.int .i64 (n : Int)) ∧ w' = w := by
  obtain ⟨c0, c1, c2, c3⟩ := hj.cells
  clear hj
  go_enter Tryz.func21, Tryz.ntmps21
  go_wp2
  go_ret
  exact ⟨rfl, rfl⟩
set_option maxRecDepth 100000 in
set_option maxHeartbeats 4000000 in
theorem jat_one {j d g c : Nat} {most files : Int} {fi at_ : Int} {t : ByteArray} {gd : Bool} (h12 : 12 ≤ t.size) (w : World) (hj : Jr w j d most (.slice (some ⟨g, 0, none⟩) 2 c) files)
    (q0 : w.cell? ⟨g, 4, none⟩ = some (.int .i64 fi)) (q1 : w.cell? ⟨g, 5, none⟩ = some (.int .i64 at_)) (q2 : w.cell? ⟨g, 6, none⟩ = some (.string t)) (q3 : w.cell? ⟨g, 7, none⟩ = some (.bool gd)) :
    Calls Tryz.prog 22 #[.pointer (some ⟨j, 0, none⟩), .int .i64 1] w fun e w' => e = .returned (.tuple #[.agg #[.int .i64 fi, .int .i64 at_, .string (t.extract 12 t.size), .bool gd], .bool true]) ∧ Below w.heap.size w w' := by
  obtain ⟨c0, c1, c2, c3⟩ := hj.cells
  obtain ⟨w1, hw1⟩ : ∃ w1, w.alloc (.cells #[.int .i64 0, .int .i64 0, .string ⟨#[]⟩, .bool false] 60) = w1 := ⟨_, rfl⟩
  have hb1 : Below w.heap.size w w1 := by rw [← hw1]; exact (Below.refl _ w).alloc (Nat.le_refl _) _
  have z4 : w1.heap[w.heap.size]? = some (.cells #[.int .i64 0, .int .i64 0, .string ⟨#[]⟩, .bool false] 60 (0, 0)) := by rw [← hw1]; exact heap_alloc_new _ _
  have hj1 : Jr w1 j d most (.slice (some ⟨g, 0, none⟩) 2 c) files := (hb1.block _ (lt_of_row hj)).trans hj
  have kl := jlen_at w1 hj1
  obtain ⟨e0, e1, e2, e3⟩ := hj1.cells
  have later : ∀ {a : Addr} {v : Value}, w.cell? a = some v → w1.cell? a = some v := fun {a v} h => by
    have hl : a.block < w.heap.size := World.block_lt_of_cell? w a h
    exact (World.cell?_of_block (hb1.block _ hl)).trans h
  have p0 := later q0
  have p1 := later q1
  have p2 := later q2
  have p3 := later q3
  have HW : Hid (w.alloc (.cells #[.int .i64 0, .int .i64 0, .string ⟨#[]⟩, .bool false] 60) = w1) := hw1
  have hs1 : w.heap.size < w1.heap.size := lt_of_row z4
  clear c0 c1 c2 c3 q0 q1 q2 q3 later hj hj1 hw1
  go_enter Tryz.func22, Tryz.ntmps22
  go_wp2_with fail
  rw [HW.out]
  refine kl.mono ?_
  rintro e w2 ⟨rfl, rfl⟩
  go_wp2_with fail
  obtain ⟨w3, hw3⟩ : ∃ w3, w2.alloc (.cells #[.int .i64 fi, .int .i64 at_, .string t, .bool gd] 82) = w3 := ⟨_, rfl⟩
  have hb3 : Below w2.heap.size w2 w3 := by rw [← hw3]; exact (Below.refl _ w2).alloc (Nat.le_refl _) _
  have r6' : w3.heap[w2.heap.size]? = some (.cells #[.int .i64 fi, .int .i64 at_, .string t, .bool gd] 82 (0, 0)) := by rw [← hw3]; exact heap_alloc_new _ _
  have y4 : w3.heap[w.heap.size]? = some (.cells #[.int .i64 0, .int .i64 0, .string ⟨#[]⟩, .bool false] 60 (0, 0)) := (hb3.block _ hs1).trans z4
  rw [hw3]
  obtain ⟨z6, hz6⟩ : ∃ z, w2.heap.size = z := ⟨_, rfl⟩
  rw [hz6] at r6' ⊢
  have r6 := r6'
  have hne : ¬ z6 = w.heap.size := by omega
  have hbw3 : Below w.heap.size w w3 := hb1.trans (hb3.mono (by omega))
  have kb : ∀ W, Below w3.heap.size w3 W → Calls Tryz.prog 31 #[.pointer (some ⟨z6, 0, none⟩)] W fun e w' => e = .returned (.string (t.extract 12 t.size)) ∧ Below W.heap.size W w' := fun W hb => (body_any z6 t h12 W (cell_of_row _ _ 2 _ _ _ ((hb.block _ (lt_of_row r6)).trans r6))).mono (by rintro e w' ⟨rfl, rfl⟩; exact ⟨rfl, Below.refl _ _⟩)
  clear hw3 hz6 p0 p1 p2 p3 e0 e1 e2 e3 kl z4 hs1 r6' hb3
  refine any_tail (by kernel_rfl) 8 (by exact Nat.le_of_ble_eq_true rfl) (fun i => i + 23) (mixR [] [.pointer (some ⟨z6, 0, none⟩), .int .i64 fi, .pointer (some ⟨z6, 1, none⟩), .int .i64 at_, .string (t.extract 12 t.size), .pointer (some ⟨z6, 3, none⟩), .bool gd, .agg #[.int .i64 fi, .int .i64 at_, .string (t.extract 12 t.size), .bool gd]]) (by kernel_rfl) (by kernel_rfl) (by kernel_rfl) (by kernel_rfl) (mixR_later _ _ (stab_nil)) ?step ?post
  case step =>
    intro iq hiq a W hrest hb hk
    have hp6 : a.eval (.tmp 6) = .pointer (some ⟨z6, 0, none⟩) := (hrest 6 (by intro iq2 hiq2; (repeat' split) <;> omega)).trans rfl
    have fp6 := ev hp6
    have hx6 : W.heap[z6]? = some (.cells #[.int .i64 fi, .int .i64 at_, .string t, .bool gd] 82 (0, 0)) := (hb.block _ (lt_of_row r6)).trans r6
    clear hrest
    obtain rfl | rfl | rfl | rfl | rfl | rfl | rfl | rfl : iq = 0 ∨ iq = 1 ∨ iq = 2 ∨ iq = 3 ∨ iq = 4 ∨ iq = 5 ∨ iq = 6 ∨ iq = 7 := by omega
    · clear hiq
      clear hk
      refine ⟨_, rfl, rfl, rfl, wp_value (v := .pointer (some ⟨z6, 0, none⟩)) (w' := W) ?_ ⟨_, rfl, Below.refl _ _, rfl⟩⟩
      go_simp
    · clear hiq
      have e0 : a.eval (.tmp 23) = .pointer (some ⟨z6, 0, none⟩) := hk 0 (mem_of (by kernel_rfl))
      have f0 := ev e0
      have hc0 := cell_of_row W z6 0 _ _ _ hx6
      clear hk
      refine ⟨_, rfl, rfl, rfl, wp_value (v := .int .i64 fi) (w' := W) ?_ ⟨_, rfl, Below.refl _ _, rfl⟩⟩
      go_simp
    · clear hiq
      clear hk
      refine ⟨_, rfl, rfl, rfl, wp_value (v := .pointer (some ⟨z6, 1, none⟩)) (w' := W) ?_ ⟨_, rfl, Below.refl _ _, rfl⟩⟩
      go_simp
    · clear hiq
      have e2 : a.eval (.tmp 25) = .pointer (some ⟨z6, 1, none⟩) := hk 2 (mem_of (by kernel_rfl))
      have f2 := ev e2
      have hc1 := cell_of_row W z6 1 _ _ _ hx6
      clear hk
      refine ⟨_, rfl, rfl, rfl, wp_value (v := .int .i64 at_) (w' := W) ?_ ⟨_, rfl, Below.refl _ _, rfl⟩⟩
      go_simp
    · clear hiq
      clear hk
      refine ⟨_, rfl, rfl, rfl, wp_enter (f := 31) (args := #[.pointer (some ⟨z6, 0, none⟩)]) ?_ ((kb W hb).mono ?_)⟩
      · go_simp
      · rintro e w2 ⟨rfl, hb2⟩
        exact ⟨_, rfl, _, rfl, hb2, rfl⟩
    · clear hiq
      clear hk
      refine ⟨_, rfl, rfl, rfl, wp_value (v := .pointer (some ⟨z6, 3, none⟩)) (w' := W) ?_ ⟨_, rfl, Below.refl _ _, rfl⟩⟩
      go_simp
    · clear hiq
      have e5 : a.eval (.tmp 28) = .pointer (some ⟨z6, 3, none⟩) := hk 5 (mem_of (by kernel_rfl))
      have f5 := ev e5
      have hc3 := cell_of_row W z6 3 _ _ _ hx6
      clear hk
      refine ⟨_, rfl, rfl, rfl, wp_value (v := .bool gd) (w' := W) ?_ ⟨_, rfl, Below.refl _ _, rfl⟩⟩
      go_simp
    · clear hiq
      have e1 : a.eval (.tmp 24) = .int .i64 fi := hk 1 (mem_of (by kernel_rfl))
      have f1 := ev e1
      have e3 : a.eval (.tmp 26) = .int .i64 at_ := hk 3 (mem_of (by kernel_rfl))
      have f3 := ev e3
      have e4 : a.eval (.tmp 27) = .string (t.extract 12 t.size) := hk 4 (mem_of (by kernel_rfl))
      have f4 := ev e4
      have e6 : a.eval (.tmp 29) = .bool gd := hk 6 (mem_of (by kernel_rfl))
      have f6 := ev e6
      clear hk
      refine ⟨_, rfl, rfl, rfl, wp_value (v := .agg #[.int .i64 fi, .int .i64 at_, .string (t.extract 12 t.size), .bool gd]) (w' := W) ?_ ⟨_, rfl, Below.refl _ _, rfl⟩⟩
      go_simp
  case post =>
    intro Vf W hbW hV
    have v7 : Vf 7 = .agg #[.int .i64 fi, .int .i64 at_, .string (t.extract 12 t.size), .bool gd] := hV 7 (by omega)
    have x4 := (hbW.block _ (lt_of_row y4)).trans y4
    have hBW : Below w.heap.size w W := hbw3.trans (hbW.mono (by have := hbw3.size; omega))
    have b0 := cell_of_row W _ 0 _ _ _ x4
    have b1 := cell_of_row W _ 1 _ _ _ x4
    have b2 := cell_of_row W _ 2 _ _ _ x4
    have b3 := cell_of_row W _ 3 _ _ _ x4
    have f0 := frozen_of_row W _ 0 _ _ x4
    have f1 := frozen_of_row W _ 1 _ _ x4
    have f2 := frozen_of_row W _ 2 _ _ x4
    have f3 := frozen_of_row W _ 3 _ _ x4
    clear hV kb
    simp only [putAll, Nat.reduceAdd]
    rw [v7]
    simp only [Act.put, List.setIfInBounds_toArray, List.set_cons_zero, List.set_cons_succ]
    go_wp2
    refine bodyPost_ret (v := .tuple #[.agg #[.int .i64 fi, .int .i64 at_, .string (t.extract 12 t.size), .bool gd], .bool true]) (by rw [results_cell_tmp Tryz.results22]; simp [asAddr, go_sem, b0, b1, b2, b3]) rfl ⟨rfl, ?_⟩
    exact (((hBW.setCell (p := ⟨w.heap.size, 0, none⟩) (Nat.le_refl _) _).setCell (p := ⟨w.heap.size, 1, none⟩) (Nat.le_refl _) _).setCell (p := ⟨w.heap.size, 2, none⟩) (Nat.le_refl _) _).setCell (p := ⟨w.heap.size, 3, none⟩) (Nat.le_refl _) _
end Go.Proofs.YtgjalfcpfgbneaaGreatDoor
