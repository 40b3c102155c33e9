/- A loss of power (loss): keeps; a file settles. -/
import Derived.Test.YtgjalfcpfgbneaaGreatDoorTxt
import Derived.Laws.CopyRow
namespace Go.Proofs.YtgjalfcpfgbneaaGreatDoor
open Go.RowKit
set_option maxHeartbeats 2000000 in
theorem settle_any {f l c : Nat} {p : Option Addr} {sure : Int} {ov : Value} (w : World) (h : Fl w f (.slice p l c) sure ov) :
    Calls Tryz.prog 63 #[.pointer (some ⟨f, 0, none⟩)] w fun e w' => e = .returned (.tuple #[]) ∧ Fl w' f (.slice p l c) (l : Int) (.map none) ∧ Chg (fun k => k = f) w w' := by
  obtain ⟨c0, c1, c2⟩ := h.cells
  have f1 := h.fro 1
  have f2 := h.fro 2
  go_enter Tryz.func63, Tryz.ntmps63
  go_wp2
  go_end0
  refine ⟨rfl, row_setCell (k := 2) (row_setCell (k := 1) h _) _, ⟨rfl, rfl, rfl, by simp, fun k _ hn => ?_⟩⟩
  rw [Below.heap_setCell _ _ _ _ (by show k ≠ f; exact hn), Below.heap_setCell _ _ _ _ (by show k ≠ f; exact hn)]
def Ls (w : World) (l : Nat) (mask torn seen : Int) : Prop := w.heap[l]? = some (.cells #[.int .u64 mask, .int .i64 torn, .int .i64 seen] 90 (0, 0))
set_option maxRecDepth 20000 in
set_option maxHeartbeats 2000000 in
theorem keeps_yes {l : Nat} {mask torn seen : Int} (n : Int) (h0 : 0 ≤ seen) (h1 : seen < 63) (hbit : bits BinOp.and IntKind.u64 (mask / 2 ^ seen.toNat) 1 = 1) (w : World) (h : Ls w l mask torn seen) :
    Calls Tryz.prog 68 #[.pointer (some ⟨l, 0, none⟩), .int .i64 n] w fun e w' => e = .returned (.int .i64 n) ∧ w' = w.setCell ⟨l, 2, none⟩ (.int .i64 (seen + 1)) := by
  have c0 := cell_of_row _ _ 0 _ _ _ h
  have c1 := cell_of_row _ _ 1 _ _ _ h
  have c2 := cell_of_row _ _ 2 _ _ _ h
  have f2 := frozen_of_row _ _ 2 _ _ h
  simp only [List.getElem?_toArray, List.getElem?_cons_zero, List.getElem?_cons_succ] at c0 c1 c2
  have hmin : min seen 63 = seen := by omega
  have c0' : (w.setCell ⟨l, 2, none⟩ (.int .i64 (seen + 1))).cell? ⟨l, 0, none⟩ = some (.int .u64 mask) := by
    have := cell_of_row _ _ 0 _ _ _ (row_setCell (k := 2) h (.int .i64 (seen + 1)))
    simpa using this
  go_enter Tryz.func68, Tryz.ntmps68
  go_wp2
  go_ret
  exact ⟨rfl, rfl⟩
set_option maxRecDepth 20000 in
set_option maxHeartbeats 2000000 in
theorem keeps_no {l : Nat} {mask torn seen : Int} (n : Int) (h0 : 0 ≤ seen) (h1 : seen < 63) (hbit : bits BinOp.and IntKind.u64 (mask / 2 ^ seen.toNat) 1 = 0) (w : World) (h : Ls w l mask torn seen) :
    Calls Tryz.prog 68 #[.pointer (some ⟨l, 0, none⟩), .int .i64 n] w fun e w' => e = .returned (.int .i64 (min (max torn 0) n)) ∧ w' = (w.setCell ⟨l, 2, none⟩ (.int .i64 (seen + 1))).setCell ⟨l, 1, none⟩ (.int .i64 0) := by
  have c0 := cell_of_row _ _ 0 _ _ _ h
  have c1 := cell_of_row _ _ 1 _ _ _ h
  have c2 := cell_of_row _ _ 2 _ _ _ h
  have f2 := frozen_of_row _ _ 2 _ _ h
  simp only [List.getElem?_toArray, List.getElem?_cons_zero, List.getElem?_cons_succ] at c0 c1 c2
  have hmin : min seen 63 = seen := by omega
  have c0' : (w.setCell ⟨l, 2, none⟩ (.int .i64 (seen + 1))).cell? ⟨l, 0, none⟩ = some (.int .u64 mask) := by
    have := cell_of_row _ _ 0 _ _ _ (row_setCell (k := 2) h (.int .i64 (seen + 1)))
    simpa using this
  have c1' : (w.setCell ⟨l, 2, none⟩ (.int .i64 (seen + 1))).cell? ⟨l, 1, none⟩ = some (.int .i64 torn) := by
    have := cell_of_row _ _ 1 _ _ _ (row_setCell (k := 2) h (.int .i64 (seen + 1)))
    simpa using this
  have f1' : (w.setCell ⟨l, 2, none⟩ (.int .i64 (seen + 1))).frozen? ⟨l, 1, none⟩ = false := frozen_of_row _ _ 1 _ _ (row_setCell (k := 2) h (.int .i64 (seen + 1)))
  go_enter Tryz.func68, Tryz.ntmps68
  go_wp2
  go_ret
  exact ⟨rfl, rfl⟩
def zerosC (cur : Array Value) (o n : Nat) : Array Value := (cur.toList.take o ++ List.replicate n (Value.int .u8 0) ++ cur.toList.drop (o + n)).toArray
theorem run_clear_row (w : World) (ty : TypeId) (g o n c : Nat) (hn : 0 < n) (cur : Array Value) (hg : w.heap[g]? = some (.cells cur 5 (0, 0))) (hfit : o + n ≤ cur.size) :
    (Builtin.clear_ #[65] ty #[.slice (some ⟨g, o, none⟩) n c]).run Tryz.prog w = .ok (.tuple #[]) (w.setRow g (zerosC cur o n)) := by
  obtain ⟨n', rfl⟩ : ∃ n', n = n' + 1 := ⟨n - 1, by omega⟩
  have hz : (zeroValue 5).run Tryz.prog w = .ok (.int .u8 0) w := by kernel_rfl
  have hzc : (Builtin.zeroCells (Value.int IntKind.u8 0).cells (n' + 1)).toList = List.replicate (n' + 1) (Value.int .u8 0) := by
    unfold Builtin.zeroCells
    apply List.ext_getElem?
    intro i
    by_cases hi : i < n' + 1
    · simp [Value.cells, hi, Nat.mod_one]
    · simp [Value.cells, hi]
  have hst := run_storeCells_at Tryz.prog g o 5 (List.replicate (n' + 1) (Value.int .u8 0)) 0 cur w hg (by simpa using hfit) (fun v hv => by rw [List.eq_of_mem_replicate hv]; rfl)
  simp only [List.length_replicate, Nat.add_zero] at hst
  simp [Builtin.clear_, run_underlying Tryz.underlying65, hz, Result.andThen]
  rw [hzc, hst]
  rfl
set_option maxRecDepth 20000 in
set_option maxHeartbeats 2000000 in
theorem back_none {g o n c : Nat} {cur : Array Value} (kept : Nat) (hk : kept < n) (hnc : n ≤ c) (w : World) (hg : w.heap[g]? = some (.cells cur 5 (0, 0))) (hfit : o + n ≤ cur.size) :
    Calls Tryz.prog 69 #[.slice (some ⟨g, o, none⟩) n c, .int .i64 (kept : Int), .string ⟨#[]⟩] w fun e w' => e = .returned (.tuple #[]) ∧ w' = w.setRow g (zerosC cur (o + kept) (n - kept)) := by
  have hcl := fun ty => run_clear_row w ty g (o + kept) (n - kept) (c - kept) (by omega) cur hg (by omega)
  have h1 : (kept : Int) ≤ (n : Int) := by omega
  have h2 : ¬ c = kept := by omega
  have h3 : ¬ (kept : Int) < 0 := by omega
  go_enter Tryz.func69, Tryz.ntmps69
  go_wp2
  go_end0
  exact ⟨rfl, rfl⟩
theorem run_clear_zero (w : World) (ty : TypeId) (a : Option Addr) (c : Nat) : (Builtin.clear_ #[65] ty #[.slice a 0 c]).run Tryz.prog w = .ok (.tuple #[]) w := by
  cases a <;> simp [Builtin.clear_, run_underlying Tryz.underlying65, Result.andThen]
set_option maxRecDepth 20000 in
set_option maxHeartbeats 2000000 in
theorem back_all {g o n c : Nat} (_ : n ≤ c) (hn : n ≤ 1000000) (w : World) :
    Calls Tryz.prog 69 #[.slice (some ⟨g, o, none⟩) n c, .int .i64 (n : Int), .string ⟨#[]⟩] w fun e w' => e = .returned (.tuple #[]) ∧ w' = w := by
  have h3 : ¬ (n : Int) < 0 := by omega
  have hz := fun ty a c => run_clear_zero w ty a c
  go_enter Tryz.func69, Tryz.ntmps69
  go_wp2
  all_goals (go_end0; exact ⟨rfl, rfl⟩)
end Go.Proofs.YtgjalfcpfgbneaaGreatDoor
