/- A struct of no names, or of no parts (Struct). -/
import Derived.Test.YtjmjlijmeahmfaaStrt
import Derived.Test.YtjmjlijmeahmfaaCln
namespace Go.Proofs.Ytjmjlijmeahmfaa
open Go.RowKit
set_option maxHeartbeats 2000000 in
theorem ins_none (A : Option Addr) (cap : Nat) (F : Value) (w : World) : Calls Try.prog 99 #[.slice A 0 cap, .int .i64 0, .int .i64 0, F] w fun e w' => e = .returned (.tuple #[]) ∧ ∃ k, w' = (fun _ : Nat => w) k := by
  go_enter Try.func99, Try.ntmps99
  go_wp2
  refine wp_loop_rounds 1 ?_
  rw [rounds_succ]
  go_wp2
  go_end0
  exact ⟨rfl, 0, rfl⟩
set_option maxRecDepth 100000 in
set_option maxHeartbeats 4000000 in
theorem struct_none {w : World} {q nc m pc : Nat} {na pa : Option Addr} (h : min q m = 0) :
    Calls Try.prog 21 #[.slice na q nc, .slice pa m pc] w fun e w' => e = .returned (.agg #[.int .i64 6, .bool false, .int .i64 0, .string ⟨#[]⟩, .slice none 0 0, .slice none 0 0]) ∧ Below w.heap.size w w' := by
  have hmin : min (q : Int) (m : Int) = 0 := by omega
  clear h
  have hs := fun (blk cap : Nat) (F : Value) (W : World) => sort55 (N := 0) (cap := cap) (A := ⟨blk, 0, none⟩) (F := F) (w := W) (X := fun _ => W) (by omega) (ins_none (some ⟨blk, 0, none⟩) cap F W)
  obtain ⟨i3, hi3, hx0, hx1, hx2⟩ := info_parts info3
  have hmk : ∀ W : World, (Instr.makeSlice 87 (.int .i64 0) (.int .i64 0)).run Try.prog W = .ok (.slice (some ⟨W.heap.size, 0, none⟩) 0 0) (W.alloc (.cells #[] 3)) := fun W => by
    have := run_makeSlice (P := Try.prog) W 87 3 i3 _ Try.underlying87 hi3 hx0 .i64 .i64 0 0 (by omega) (by omega) (by rw [hx1]; simp) (by rw [hx2]; omega) (by omega)
    rw [hx1] at this
    have hz : madeCells (Value.cells (.int .i64 0)) (Int.toNat 0 * 1) = #[] := by kernel_rfl
    rw [hz] at this
    exact this
  clear hi3 hx0 hx1 hx2
  go_enter Try.func21, Try.ntmps21
  go_wp2_with fail
  refine wp_loop_rounds 1 ?_
  rw [rounds_succ]
  go_wp2_with fail
  refine (hs _ _ _ _).mono ?_
  rintro e w4 ⟨rfl, k, rfl⟩
  go_wp2_with fail
  refine wp_loop_rounds 1 ?_
  rw [rounds_succ]
  go_wp2_with fail
  obtain ⟨wf, hwf⟩ : ∃ wf, (((w.alloc (.cells #[.slice na q nc] 23)).alloc (.cells #[.int .i64 6, .bool false, .int .i64 0, .string ⟨#[]⟩, .slice none 0 0, .slice none 0 0] 25)).alloc (.cells #[] 3)).alloc (.cells #[.int .i64 6, .bool false, .int .i64 0, .string ⟨#[]⟩, .slice none 0 0, .slice none 0 0] 25) = wf := ⟨_, rfl⟩
  have hof : Below w.heap.size w wf := by rw [← hwf]; exact ((((Below.refl _ w).alloc (Nat.le_refl _) _).alloc (by simp) _).alloc (by simp; omega) _).alloc (by simp; omega) _
  have hro : wf.heap[w.heap.size + 1]? = some (.cells #[.int .i64 6, .bool false, .int .i64 0, .string ⟨#[]⟩, .slice none 0 0, .slice none 0 0] 25 (0, 0)) := by
    rw [← hwf, Below.heap_alloc _ _ _ (by simp), Below.heap_alloc _ _ _ (by simp)]
    have := heap_alloc_new (w.alloc (.cells #[.slice na q nc] 23)) (.cells #[.int .i64 6, .bool false, .int .i64 0, .string ⟨#[]⟩, .slice none 0 0, .slice none 0 0] 25)
    simpa using this
  rw [hwf]
  clear hwf
  have o0 := cell_of_row wf _ 0 _ _ _ hro
  have o1 := cell_of_row wf _ 1 _ _ _ hro
  have o2 := cell_of_row wf _ 2 _ _ _ hro
  have o3 := cell_of_row wf _ 3 _ _ _ hro
  have o4 := cell_of_row wf _ 4 _ _ _ hro
  have o5 := cell_of_row wf _ 5 _ _ _ hro
  exact bodyPost_ret (v := .agg #[.int .i64 6, .bool false, .int .i64 0, .string ⟨#[]⟩, .slice none 0 0, .slice none 0 0]) (by simp [results, Try.results21, go_sem, o0, o1, o2, o3, o4, o5]) rfl ⟨rfl, hof⟩
end Go.Proofs.Ytjmjlijmeahmfaa
