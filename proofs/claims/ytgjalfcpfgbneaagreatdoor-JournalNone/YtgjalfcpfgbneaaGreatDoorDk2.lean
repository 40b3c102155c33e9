/- open on a disk without files: the map and the file come. -/
import Derived.Test.YtgjalfcpfgbneaaGreatDoorDk1
import Derived.Laws.Cover3
import Derived.Deep.CutRange
namespace Go.Proofs.YtgjalfcpfgbneaaGreatDoor
open Go.RowKit
theorem eql_map (w : World) (m : Option Nat) : (binOp .eql 67 (.map m) (.map none)).run Tryz.prog w = .ok (.bool m.isNone) w := by
  simp [binOp, run_equal_map_nil w 67 3 92 m Tryz.underlying67, Result.andThen]
theorem make_map (w : World) : (Instr.makeMap 67 none).run Tryz.prog w = .ok (.map (some w.heap.size)) (w.alloc (.map #[] 0)) := by kernel_rfl
theorem put_one (l : Lit) (x : DataW Unit) : (DataW.map []).put l x = .map [(l, x)] := rfl
theorem at_one (n : Int) (x : DataW Unit) : (DataW.map [(.int .i64 n, x)]).atKey (.int .i64 n) .nil = x := by simp [DataW.atKey, Lit.sameKey]
theorem mp_kept {w w' : World} {m k : Nat} {D : DataW Unit} (h : Mp w m k D) (hb : w'.heap[m]? = w.heap[m]?) : Mp w' m k D := by
  obtain ⟨es, clock, h1, h2⟩ := h
  exact ⟨es, clock, hb.trans h1, h2⟩
set_option maxRecDepth 20000 in
set_option maxHeartbeats 2000000 in
theorem open_none {d : Nat} {sec used ch : Int} {pl : Value} {dead : Bool} (n : Int) (hI : I64 n) (w : World) (h : Dk w d (.map none) sec used ch pl dead) :
    Calls Tryz.prog 72 #[.pointer (some ⟨d, 0, none⟩), .int .i64 n] w fun e w' => e = .returned (.pointer (some ⟨w.heap.size + 1, 0, none⟩)) ∧ Dk w' d (.map (some w.heap.size)) sec used ch pl dead ∧ Mp w' w.heap.size 1 (.map [(.int .i64 n, .lit (.int .u64 ((w.heap.size + 1 : Nat) : Int)))]) ∧
      w'.heap[w.heap.size + 1]? = some (.cells #[.slice none 0 0, .int .i64 0, .map none] 97 (0, 0)) ∧ Chg (fun k => k = d) w w' := by
  obtain ⟨c0, c1, c2, c3, c4, c5⟩ := h.cells
  have f0 := h.fro 0
  have heq := fun w => eql_map w none
  have hmk := make_map w
  have hdl := lt_of_row h
  have h1 : Dk (w.alloc (.map #[] 0)) d (.map none) sec used ch pl dead := (Below.heap_alloc w _ _ hdl).trans h
  obtain ⟨b0, b1, b2, b3, b4, b5⟩ := h1.cells
  have g0 := h1.fro 0
  go_enter Tryz.func72, Tryz.ntmps72
  go_upto_region 3 with fail
  have h2 : Dk ((w.setCell ⟨d, 0, none⟩ (.map (some w.heap.size))).alloc (.map #[] 0)) d (.map (some w.heap.size)) sec used ch pl dead := (Below.heap_alloc _ _ _ (by simpa using hdl)).trans (row_setCell (k := 0) h _)
  have hm2 : Mp ((w.setCell ⟨d, 0, none⟩ (.map (some w.heap.size))).alloc (.map #[] 0)) w.heap.size 0 (.map []) := by
    have := World.ownsMap_made (w.setCell ⟨d, 0, none⟩ (.map (some w.heap.size))) Tryz.prog 3 ptrR
    unfold Mp
    simpa using this
  have hs2 : ((w.setCell ⟨d, 0, none⟩ (.map (some w.heap.size))).alloc (.map #[] 0)).heap.size = w.heap.size + 1 := by simp
  have hC2 : Chg (fun k => k = d) w ((w.setCell ⟨d, 0, none⟩ (.map (some w.heap.size))).alloc (.map #[] 0)) := ⟨rfl, rfl, rfl, by simp, fun k hk hd => by
    rw [Below.heap_alloc _ _ _ (by simpa using hk), Below.heap_setCell _ _ _ _ (by show k ≠ d; exact hd)]⟩
  obtain ⟨w2, hw2⟩ : ∃ w2, ((w.setCell ⟨d, 0, none⟩ (.map (some w.heap.size))).alloc (.map #[] 0)) = w2 := ⟨_, rfl⟩
  rw [hw2] at h2 hm2 hs2 hC2 ⊢
  clear hw2 h1 b0 b1 b2 b3 b4 b5 g0 c0 c1 c2 c3 c4 c5 f0 hmk
  obtain ⟨m, hm⟩ : ∃ m, w.heap.size = m := ⟨_, rfl⟩
  have HM : Hid (w.heap.size = m) := hm
  rw [hm] at h2 hm2 hs2 ⊢
  obtain ⟨c0, _, _, _, _, _⟩ := h2.cells
  have hln := hm2.look_nil hI rfl
  have HS : Hid (w2.heap.size = m + 1) := hs2
  clear hm hs2
  go_upto_region 4 with fail
  have hdl2 : d < w2.heap.size := lt_of_row h2
  have hc0a : ∀ o, (w2.alloc o).cell? ⟨d, 0, none⟩ = some (.map (some m)) := fun o => (World.cell?_of_block (a := ⟨d, 0, none⟩) (Below.heap_alloc w2 o d hdl2)).trans c0
  have hma : ∀ o, (w2.alloc o).ownsMap Tryz.prog 3 ptrR m 0 (.map []) := fun o => World.ownsMap.alloc hm2 o
  go_upto_region 5 with (at_mapUpdate; refine wpList_mapUpdate_own _ rfl _ _ _ 67 rfl 3 92 keyed3 Tryz.underlying67 ptrR m 0 (.map []) rfl (hma _) (by unfold maxLen; omega) _ _ (.int .i64 n) rfl rfl (key3 hI) (.lit (.int .u64 (w2.heap.size : Int))) [] (ptrR_some _) ?_; intro w4 hm4 hgr4)
  rw [put_one] at hm4
  have hm4' : Mp w4 m 1 (.map [(.int .i64 n, .lit (.int .u64 (w2.heap.size : Int)))]) := hm4
  have hdm : d ≠ m := by have := HM.out; omega
  have h4 : Dk w4 d (.map (some m)) sec used ch pl dead := (hgr4.block d (by simp; omega) (by simpa using hdm)).trans ((Below.heap_alloc w2 _ d hdl2).trans h2)
  have hl4 := hm4'.look hI (at_one n _)
  have r4 : w4.heap[w2.heap.size]? = some (.cells #[.slice none 0 0, .int .i64 0, .map none] 97 (0, 0)) := by
    rw [hgr4.block _ (by simp) (by have := HS.out; simp; omega)]
    exact heap_alloc_new w2 _
  have hC4 : Chg (fun k => k = d) w w4 := hC2.trans (S' := fun k => k = m) ⟨hgr4.os, hgr4.tape, hgr4.output, by have := hgr4.size; simp at this; omega, fun k hk hn => by
    rw [hgr4.block k (by simp; omega) (by simpa using hn), Below.heap_alloc w2 _ k hk]⟩ (fun k hk => Or.inr (by have := HM.out; omega))
  clear hm4 hgr4 hma hc0a c0 hln
  obtain ⟨c0, _, _, _, _, _⟩ := h4.cells
  go_wp2
  go_ret
  have hs := HS.out
  rw [hs] at hm4' r4
  have hmm := HM.out
  refine ⟨?_, ?_, ?_, ?_, ?_⟩
  · exact congrArg (fun z => Ending.returned (Value.pointer (some ⟨z, 0, none⟩))) (by omega)
  · rw [hmm]; exact h4
  · rw [hmm]; exact hm4'
  · rw [hmm]; exact r4
  · exact hC4
end Go.Proofs.YtgjalfcpfgbneaaGreatDoor
