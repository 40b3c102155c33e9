/- bound of the ranks of NOT, of a comparison, of the strongest: each calls its own function. Values of literals (None, Bool, Int, Str, Bytes). A block that is written over whole (put), and read whole. number of two numbers and +. Values that words of the language say (keyValue), and literals' values (literalOf). Literals' values (literalOf), and literals (literal). -/
import Derived.Test.YtnnclhmhbmbkfaaGreatDoorXah
import Derived.Deep.MidRow
import Derived.Test.YtnnclhmhbmbkfaaGreatDoorXab
import Derived.Laws.ResultCell
namespace Go.Proofs.YtnnclhmhbmbkfaaGreatDoor
open Go.RowKit Go.Shelf
attribute [local go_sem] Oper.semAt_some fw0 fw1 fw2
set_option maxRecDepth 100000 in
set_option maxHeartbeats 8000000 in
theorem bound_not {w : World} {b : Nat} {p : Option Addr} {c : Nat} {ws : List Wd} {s : PS} (H : Ps w b p c ws s) (X : Et × PS)
    (kb : ∀ W, Ps W b p c ws s → Calls Tryz.prog 132 #[.pointer (some ⟨b, 0, none⟩)] W (Gives ws (fun k => W.heap.size ≤ k) W b p c X)) :
    Calls Tryz.prog 113 #[.pointer (some ⟨b, 0, none⟩), .int .i64 2] w (Gives ws (fun k => w.heap.size ≤ k) w b p c X) := by
  have hold := H.old
  have lb := lt_of_row H.row
  obtain ⟨w1, hw1⟩ : ∃ w1, w.alloc (.cells #[.int .i64 0, .string ⟨#[]⟩, .int .i64 0, .bool false, .int .i64 0, .string ⟨#[]⟩, .slice none 0 0, .slice none 0 0, .slice none 0 0, .slice none 0 0] 28) = w1 := ⟨_, rfl⟩
  have hb1 : Below w.heap.size w w1 := by rw [← hw1]; exact (Below.refl _ w).alloc (Nat.le_refl _) _
  have hs1 : w1.heap.size = w.heap.size + 1 := by rw [← hw1]; simp
  have rz1 : w1.heap[w.heap.size]? = some (.cells #[.int .i64 0, .string ⟨#[]⟩, .int .i64 0, .bool false, .int .i64 0, .string ⟨#[]⟩, .slice none 0 0, .slice none 0 0, .slice none 0 0, .slice none 0 0] 28 (0, 0)) := by rw [← hw1]; exact heap_alloc_new _ _
  have k1 := kb w1 (H.later hb1)
  have HB : Hid (Below w.heap.size w w1) := hb1
  clear H hb1 kb
  go_enter Tryz.func113, Tryz.ntmps113
  go_wp2_with fail
  refine k1.mono ?_
  rintro q w6 ⟨d6, v6, rfl, hL6, hP6, hO6⟩
  have s6 := hO6.size
  have rz6 := (hO6.block _ (by omega) (by omega)).trans rz1
  obtain ⟨R6, rfl⟩ := hL6.row
  have q0 := cell_of_row w6 _ 0 _ _ _ rz6
  have g0 := frozen_of_row w6 _ 0 _ _ rz6
  have q1 := cell_of_row w6 _ 1 _ _ _ rz6
  have g1 := frozen_of_row w6 _ 1 _ _ rz6
  have q2 := cell_of_row w6 _ 2 _ _ _ rz6
  have g2 := frozen_of_row w6 _ 2 _ _ rz6
  have q3 := cell_of_row w6 _ 3 _ _ _ rz6
  have g3 := frozen_of_row w6 _ 3 _ _ rz6
  have q4 := cell_of_row w6 _ 4 _ _ _ rz6
  have g4 := frozen_of_row w6 _ 4 _ _ rz6
  have q5 := cell_of_row w6 _ 5 _ _ _ rz6
  have g5 := frozen_of_row w6 _ 5 _ _ rz6
  have q6 := cell_of_row w6 _ 6 _ _ _ rz6
  have g6 := frozen_of_row w6 _ 6 _ _ rz6
  have q7 := cell_of_row w6 _ 7 _ _ _ rz6
  have g7 := frozen_of_row w6 _ 7 _ _ rz6
  have q8 := cell_of_row w6 _ 8 _ _ _ rz6
  have g8 := frozen_of_row w6 _ 8 _ _ rz6
  have q9 := cell_of_row w6 _ 9 _ _ _ rz6
  have g9 := frozen_of_row w6 _ 9 _ _ rz6
  have H6 : Hid (LiesE w6 (fun k => w1.heap.size ≤ k) d6 X.1 (rowX R6) ∧ Ps w6 b p c ws X.2 ∧ Onl b w1 w6 ∧ w6.heap[w.heap.size]? = some (.cells #[.int .i64 0, .string ⟨#[]⟩, .int .i64 0, .bool false, .int .i64 0, .string ⟨#[]⟩, .slice none 0 0, .slice none 0 0, .slice none 0 0, .slice none 0 0] 28 (0, 0))) := ⟨hL6, hP6, hO6, rz6⟩
  clear k1 hL6 hP6 hO6 rz6 rz1 hw1
  unfold rowX
  go_wp2
  obtain ⟨hL6, hP6, hO6, rz6⟩ := H6.out
  refine bodyPost_ret (results_cell_row Tryz.results113 _ _ w.heap.size 28 _ (0, 0) _ rfl (setR_row rz6 rfl R6) Tryz.underlying28 rfl (by kernel_rfl)) rfl ⟨d6, rowX R6, rfl, ?_, ?_, ?_⟩
  · exact (hL6.since (Since.set10 (by omega) w6 _ _ _ _ _ _ _ _ _ _)).imp fun k hk _ => by omega
  · exact hP6.kept (z := w.heap.size) lb hold (fun j hj => set10_other hj _ _ _ _ _ _ _ _ _ _) (Nat.le_of_eq (set10_size _ _ _ _ _ _ _ _ _ _ _ _).symm)
  · exact ((Onl.of HB.out).trans hO6).set10 _ (Nat.le_refl _) _ _ _ _ _ _ _ _ _ _
set_option maxRecDepth 100000 in
set_option maxHeartbeats 8000000 in
theorem bound_cmp {w : World} {b : Nat} {p : Option Addr} {c : Nat} {ws : List Wd} {s : PS} (H : Ps w b p c ws s) (X : Et × PS)
    (kb : ∀ W, Ps W b p c ws s → Calls Tryz.prog 133 #[.pointer (some ⟨b, 0, none⟩)] W (Gives ws (fun k => W.heap.size ≤ k) W b p c X)) :
    Calls Tryz.prog 113 #[.pointer (some ⟨b, 0, none⟩), .int .i64 3] w (Gives ws (fun k => w.heap.size ≤ k) w b p c X) := by
  have hold := H.old
  have lb := lt_of_row H.row
  obtain ⟨w1, hw1⟩ : ∃ w1, w.alloc (.cells #[.int .i64 0, .string ⟨#[]⟩, .int .i64 0, .bool false, .int .i64 0, .string ⟨#[]⟩, .slice none 0 0, .slice none 0 0, .slice none 0 0, .slice none 0 0] 28) = w1 := ⟨_, rfl⟩
  have hb1 : Below w.heap.size w w1 := by rw [← hw1]; exact (Below.refl _ w).alloc (Nat.le_refl _) _
  have hs1 : w1.heap.size = w.heap.size + 1 := by rw [← hw1]; simp
  have rz1 : w1.heap[w.heap.size]? = some (.cells #[.int .i64 0, .string ⟨#[]⟩, .int .i64 0, .bool false, .int .i64 0, .string ⟨#[]⟩, .slice none 0 0, .slice none 0 0, .slice none 0 0, .slice none 0 0] 28 (0, 0)) := by rw [← hw1]; exact heap_alloc_new _ _
  have k1 := kb w1 (H.later hb1)
  have HB : Hid (Below w.heap.size w w1) := hb1
  clear H hb1 kb
  go_enter Tryz.func113, Tryz.ntmps113
  go_wp2_with fail
  refine k1.mono ?_
  rintro q w6 ⟨d6, v6, rfl, hL6, hP6, hO6⟩
  have s6 := hO6.size
  have rz6 := (hO6.block _ (by omega) (by omega)).trans rz1
  obtain ⟨R6, rfl⟩ := hL6.row
  have q0 := cell_of_row w6 _ 0 _ _ _ rz6
  have g0 := frozen_of_row w6 _ 0 _ _ rz6
  have q1 := cell_of_row w6 _ 1 _ _ _ rz6
  have g1 := frozen_of_row w6 _ 1 _ _ rz6
  have q2 := cell_of_row w6 _ 2 _ _ _ rz6
  have g2 := frozen_of_row w6 _ 2 _ _ rz6
  have q3 := cell_of_row w6 _ 3 _ _ _ rz6
  have g3 := frozen_of_row w6 _ 3 _ _ rz6
  have q4 := cell_of_row w6 _ 4 _ _ _ rz6
  have g4 := frozen_of_row w6 _ 4 _ _ rz6
  have q5 := cell_of_row w6 _ 5 _ _ _ rz6
  have g5 := frozen_of_row w6 _ 5 _ _ rz6
  have q6 := cell_of_row w6 _ 6 _ _ _ rz6
  have g6 := frozen_of_row w6 _ 6 _ _ rz6
  have q7 := cell_of_row w6 _ 7 _ _ _ rz6
  have g7 := frozen_of_row w6 _ 7 _ _ rz6
  have q8 := cell_of_row w6 _ 8 _ _ _ rz6
  have g8 := frozen_of_row w6 _ 8 _ _ rz6
  have q9 := cell_of_row w6 _ 9 _ _ _ rz6
  have g9 := frozen_of_row w6 _ 9 _ _ rz6
  have H6 : Hid (LiesE w6 (fun k => w1.heap.size ≤ k) d6 X.1 (rowX R6) ∧ Ps w6 b p c ws X.2 ∧ Onl b w1 w6 ∧ w6.heap[w.heap.size]? = some (.cells #[.int .i64 0, .string ⟨#[]⟩, .int .i64 0, .bool false, .int .i64 0, .string ⟨#[]⟩, .slice none 0 0, .slice none 0 0, .slice none 0 0, .slice none 0 0] 28 (0, 0))) := ⟨hL6, hP6, hO6, rz6⟩
  clear k1 hL6 hP6 hO6 rz6 rz1 hw1
  unfold rowX
  go_wp2
  obtain ⟨hL6, hP6, hO6, rz6⟩ := H6.out
  refine bodyPost_ret (results_cell_row Tryz.results113 _ _ w.heap.size 28 _ (0, 0) _ rfl (setR_row rz6 rfl R6) Tryz.underlying28 rfl (by kernel_rfl)) rfl ⟨d6, rowX R6, rfl, ?_, ?_, ?_⟩
  · exact (hL6.since (Since.set10 (by omega) w6 _ _ _ _ _ _ _ _ _ _)).imp fun k hk _ => by omega
  · exact hP6.kept (z := w.heap.size) lb hold (fun j hj => set10_other hj _ _ _ _ _ _ _ _ _ _) (Nat.le_of_eq (set10_size _ _ _ _ _ _ _ _ _ _ _ _).symm)
  · exact ((Onl.of HB.out).trans hO6).set10 _ (Nat.le_refl _) _ _ _ _ _ _ _ _ _ _
set_option maxRecDepth 100000 in
set_option maxHeartbeats 8000000 in
theorem bound_top {w : World} {b : Nat} {p : Option Addr} {c : Nat} {ws : List Wd} {s : PS} (H : Ps w b p c ws s) (X : Et × PS)
    (kb : ∀ W, Ps W b p c ws s → Calls Tryz.prog 134 #[.pointer (some ⟨b, 0, none⟩)] W (Gives ws (fun k => W.heap.size ≤ k) W b p c X)) :
    Calls Tryz.prog 113 #[.pointer (some ⟨b, 0, none⟩), .int .i64 6] w (Gives ws (fun k => w.heap.size ≤ k) w b p c X) := by
  have hold := H.old
  have lb := lt_of_row H.row
  obtain ⟨w1, hw1⟩ : ∃ w1, w.alloc (.cells #[.int .i64 0, .string ⟨#[]⟩, .int .i64 0, .bool false, .int .i64 0, .string ⟨#[]⟩, .slice none 0 0, .slice none 0 0, .slice none 0 0, .slice none 0 0] 28) = w1 := ⟨_, rfl⟩
  have hb1 : Below w.heap.size w w1 := by rw [← hw1]; exact (Below.refl _ w).alloc (Nat.le_refl _) _
  have hs1 : w1.heap.size = w.heap.size + 1 := by rw [← hw1]; simp
  have rz1 : w1.heap[w.heap.size]? = some (.cells #[.int .i64 0, .string ⟨#[]⟩, .int .i64 0, .bool false, .int .i64 0, .string ⟨#[]⟩, .slice none 0 0, .slice none 0 0, .slice none 0 0, .slice none 0 0] 28 (0, 0)) := by rw [← hw1]; exact heap_alloc_new _ _
  have k1 := kb w1 (H.later hb1)
  have HB : Hid (Below w.heap.size w w1) := hb1
  clear H hb1 kb
  go_enter Tryz.func113, Tryz.ntmps113
  go_wp2_with fail
  refine k1.mono ?_
  rintro q w6 ⟨d6, v6, rfl, hL6, hP6, hO6⟩
  have s6 := hO6.size
  have rz6 := (hO6.block _ (by omega) (by omega)).trans rz1
  obtain ⟨R6, rfl⟩ := hL6.row
  have q0 := cell_of_row w6 _ 0 _ _ _ rz6
  have g0 := frozen_of_row w6 _ 0 _ _ rz6
  have q1 := cell_of_row w6 _ 1 _ _ _ rz6
  have g1 := frozen_of_row w6 _ 1 _ _ rz6
  have q2 := cell_of_row w6 _ 2 _ _ _ rz6
  have g2 := frozen_of_row w6 _ 2 _ _ rz6
  have q3 := cell_of_row w6 _ 3 _ _ _ rz6
  have g3 := frozen_of_row w6 _ 3 _ _ rz6
  have q4 := cell_of_row w6 _ 4 _ _ _ rz6
  have g4 := frozen_of_row w6 _ 4 _ _ rz6
  have q5 := cell_of_row w6 _ 5 _ _ _ rz6
  have g5 := frozen_of_row w6 _ 5 _ _ rz6
  have q6 := cell_of_row w6 _ 6 _ _ _ rz6
  have g6 := frozen_of_row w6 _ 6 _ _ rz6
  have q7 := cell_of_row w6 _ 7 _ _ _ rz6
  have g7 := frozen_of_row w6 _ 7 _ _ rz6
  have q8 := cell_of_row w6 _ 8 _ _ _ rz6
  have g8 := frozen_of_row w6 _ 8 _ _ rz6
  have q9 := cell_of_row w6 _ 9 _ _ _ rz6
  have g9 := frozen_of_row w6 _ 9 _ _ rz6
  have H6 : Hid (LiesE w6 (fun k => w1.heap.size ≤ k) d6 X.1 (rowX R6) ∧ Ps w6 b p c ws X.2 ∧ Onl b w1 w6 ∧ w6.heap[w.heap.size]? = some (.cells #[.int .i64 0, .string ⟨#[]⟩, .int .i64 0, .bool false, .int .i64 0, .string ⟨#[]⟩, .slice none 0 0, .slice none 0 0, .slice none 0 0, .slice none 0 0] 28 (0, 0))) := ⟨hL6, hP6, hO6, rz6⟩
  clear k1 hL6 hP6 hO6 rz6 rz1 hw1
  unfold rowX
  go_wp2
  obtain ⟨hL6, hP6, hO6, rz6⟩ := H6.out
  refine bodyPost_ret (results_cell_row Tryz.results113 _ _ w.heap.size 28 _ (0, 0) _ rfl (setR_row rz6 rfl R6) Tryz.underlying28 rfl (by kernel_rfl)) rfl ⟨d6, rowX R6, rfl, ?_, ?_, ?_⟩
  · exact (hL6.since (Since.set10 (by omega) w6 _ _ _ _ _ _ _ _ _ _)).imp fun k hk _ => by omega
  · exact hP6.kept (z := w.heap.size) lb hold (fun j hj => set10_other hj _ _ _ _ _ _ _ _ _ _) (Nat.le_of_eq (set10_size _ _ _ _ _ _ _ _ _ _ _ _).symm)
  · exact ((Onl.of HB.out).trans hO6).set10 _ (Nat.le_refl _) _ _ _ _ _ _ _ _ _ _
end Go.Proofs.YtnnclhmhbmbkfaaGreatDoor
namespace Go.Proofs.YtnnclhmhbmbkfaaGreatDoor
open Go.RowKit Go.Shelf
attribute [local go_sem] Oper.semAt_some fw0 fw1 fw2
def vlV (k : Int) (b : Bool) (n : Int) (s : ByteArray) : Value := .agg #[.int .i64 k, .bool b, .int .i64 n, .string s, .slice none 0 0, .slice none 0 0]
set_option maxRecDepth 100000 in
set_option maxHeartbeats 4000000 in
theorem vint_any (n : Int) (w : World) : Calls Tryz.prog 16 #[.int .i64 n] w fun r w' => r = .returned (vlV 2 false n ⟨#[]⟩) ∧ Below w.heap.size w w' := by
  unfold vlV
  go_enter Tryz.func16, Tryz.ntmps16
  go_wp2
  exact bodyPost_ret (results_cell_row Tryz.results16 _ _ w.heap.size 25 _ (0, 0) _ rfl (heap_alloc_new _ _) Tryz.underlying25 rfl (by kernel_rfl)) rfl ⟨rfl, (Below.refl _ w).alloc (Nat.le_refl _) _⟩
set_option maxRecDepth 100000 in
set_option maxHeartbeats 4000000 in
theorem vstr_any (s : ByteArray) (w : World) : Calls Tryz.prog 180 #[.string s] w fun r w' => r = .returned (vlV 3 false 0 s) ∧ Below w.heap.size w w' := by
  unfold vlV
  go_enter Tryz.func180, Tryz.ntmps180
  go_wp2
  exact bodyPost_ret (results_cell_row Tryz.results180 _ _ w.heap.size 25 _ (0, 0) _ rfl (heap_alloc_new _ _) Tryz.underlying25 rfl (by kernel_rfl)) rfl ⟨rfl, (Below.refl _ w).alloc (Nat.le_refl _) _⟩
set_option maxRecDepth 100000 in
set_option maxHeartbeats 4000000 in
theorem vbytes_any (s : ByteArray) (w : World) : Calls Tryz.prog 181 #[.string s] w fun r w' => r = .returned (vlV 4 false 0 s) ∧ Below w.heap.size w w' := by
  unfold vlV
  go_enter Tryz.func181, Tryz.ntmps181
  go_wp2
  exact bodyPost_ret (results_cell_row Tryz.results181 _ _ w.heap.size 25 _ (0, 0) _ rfl (heap_alloc_new _ _) Tryz.underlying25 rfl (by kernel_rfl)) rfl ⟨rfl, (Below.refl _ w).alloc (Nat.le_refl _) _⟩
set_option maxRecDepth 100000 in
set_option maxHeartbeats 4000000 in
theorem vnone_any (w : World) : Calls Tryz.prog 18 #[] w fun r w' => r = .returned (vlV 0 false 0 ⟨#[]⟩) ∧ Below w.heap.size w w' := by
  unfold vlV
  go_enter Tryz.func18, Tryz.ntmps18
  go_wp2
  exact bodyPost_ret (results_cell_row Tryz.results18 _ _ w.heap.size 25 _ (0, 0) _ rfl (heap_alloc_new _ _) Tryz.underlying25 rfl (by kernel_rfl)) rfl ⟨rfl, (Below.refl _ w).alloc (Nat.le_refl _) _⟩
set_option maxRecDepth 100000 in
set_option maxHeartbeats 4000000 in
theorem vbool_any (b : Bool) (w : World) : Calls Tryz.prog 32 #[.bool b] w fun r w' => r = .returned (vlV 1 b 0 ⟨#[]⟩) ∧ Below w.heap.size w w' := by
  unfold vlV
  go_enter Tryz.func32, Tryz.ntmps32
  go_wp2
  exact bodyPost_ret (results_cell_row Tryz.results32 _ _ w.heap.size 25 _ (0, 0) _ rfl (heap_alloc_new _ _) Tryz.underlying25 rfl (by kernel_rfl)) rfl ⟨rfl, (Below.refl _ w).alloc (Nat.le_refl _) _⟩
end Go.Proofs.YtnnclhmhbmbkfaaGreatDoor
namespace Go.Proofs.YtnnclhmhbmbkfaaGreatDoor
open Go.RowKit Go.Shelf
theorem there_of_row {w : World} {z : Nat} {cs : Array Value} {t : TypeId} (h : w.heap[z]? = some (.cells cs t (0, 0))) {n : Nat} (hn : n ≤ cs.size) : w.there z 0 n := by
  intro j hj
  have e : (0 : Nat) + j = j := Nat.zero_add j
  rw [e]
  refine ⟨?_, frozen_of_row w _ j _ _ h⟩
  rw [cell_of_row w z j cs t _ h]
  simp
  omega
def put (w : World) (z : Nat) (vs : Array Value) : World := w.setCells z 0 vs.toList
theorem store_row {w : World} {z : Nat} {cs : Array Value} {t : TypeId} (h : w.heap[z]? = some (.cells cs t (0, 0))) (T : TypeId) (vs : Array Value) (hn : vs.size = cs.size) (hi : (Tryz.prog.info? T).map (·.size) = some vs.size) (h1 : vs.all (·.oneCell') = true) :
    (Instr.storeAt T (.pointer (some ⟨z, 0, none⟩)) (.agg vs)).run Tryz.prog w = .ok () (put w z vs) :=
  run_storeAt_mid w z 0 T vs (there_of_row h (by omega)) hi h1
theorem load_row {w : World} {z : Nat} {cs : Array Value} {t : TypeId} (h : w.heap[z]? = some (.cells cs t (0, 0))) (T : TypeId) (d : TypeDesc) (hu : Tryz.prog.underlying T = some d) (hd : d.isRow = true) (hi : (Tryz.prog.info? T).map (·.size) = some cs.size) :
    (Instr.loadAt T (.pointer (some ⟨z, 0, none⟩))).run Tryz.prog w = .ok (.agg cs) w := by
  have := run_loadAt_mid (P := Tryz.prog) w z 0 T cs.toList d (fun j v hv => by rw [Nat.zero_add, cell_of_row w z j cs t _ h]; simpa using hv) hu hd (by simpa using hi)
  simpa using this
theorem take_set_at : ∀ (l : List Value) (o : Nat) (v : Value), o < l.length → (l.set o v).take (o + 1) = l.take o ++ [v]
  | [], _, _, h => by simp at h
  | _ :: _, 0, _, _ => by simp
  | x :: l, o + 1, v, h => by
    have := take_set_at l o v (by simpa using h)
    simp [this]
theorem heap_setCells_full (g : Nat) (t : TypeId) : ∀ (vs : List Value) (o : Nat) (W : World) (cs : Array Value), W.heap[g]? = some (.cells cs t (0, 0)) → o + vs.length = cs.size →
    (W.setCells g o vs).heap[g]? = some (.cells (cs.toList.take o ++ vs).toArray t (0, 0))
  | [], o, W, cs, h, hl => by
    simp only [World.setCells, List.append_nil]
    rw [h, List.take_of_length_le (by simp at hl; simp; omega)]
  | v :: r, o, W, cs, h, hl => by
    simp only [World.setCells]
    simp at hl
    rw [heap_setCells_full g t r (o + 1) _ (cs.setIfInBounds o v) (heap_setCell_same W g o cs t v h) (by simp; omega)]
    congr 3
    have : (cs.setIfInBounds o v).toList.take (o + 1) = cs.toList.take o ++ [v] := by
      rw [Array.toList_setIfInBounds, take_set_at cs.toList o v (by simp; omega)]
    rw [this]; simp
theorem put_row {W : World} {g : Nat} {t : TypeId} {cs : Array Value} (vs : Array Value) (h : W.heap[g]? = some (.cells cs t (0, 0))) (hl : vs.size = cs.size) :
    (put W g vs).heap[g]? = some (.cells vs t (0, 0)) := by
  unfold put
  rw [heap_setCells_full g t vs.toList 0 W cs h (by simp; omega)]
  simp
theorem below_setCells' {B g : Nat} {a : World} (hg : B ≤ g) : ∀ (vs : List Value) (o : Nat) (W : World), Below B a W → Below B a (W.setCells g o vs)
  | [], _, _, h => h
  | v :: r, o, _, h => below_setCells' hg r (o + 1) _ (h.setCell hg v)
theorem heap_setCells_else (g i : Nat) (hne : i ≠ g) : ∀ (vs : List Value) (o : Nat) (W : World), (W.setCells g o vs).heap[i]? = W.heap[i]?
  | [], _, _ => rfl
  | v :: r, o, W => by
    simp only [World.setCells]
    rw [heap_setCells_else g i hne r (o + 1) _, Below.heap_setCell _ _ _ i hne]
theorem size_setCells (g : Nat) : ∀ (vs : List Value) (o : Nat) (W : World), (W.setCells g o vs).heap.size = W.heap.size
  | [], _, _ => rfl
  | v :: r, o, W => by
    simp only [World.setCells]
    rw [size_setCells g r (o + 1) _]
    simp [World.setCell]
theorem put_other {w : World} {z j : Nat} (hj : j ≠ z) (vs : Array Value) : (put w z vs).heap[j]? = w.heap[j]? := heap_setCells_else z j hj _ _ _
theorem put_size (w : World) (z : Nat) (vs : Array Value) : (put w z vs).heap.size = w.heap.size := size_setCells z _ _ _
theorem put_below {B : Nat} {a w : World} (hb : Below B a w) (z : Nat) (hz : B ≤ z) (vs : Array Value) : Below B a (put w z vs) := below_setCells' hz _ _ _ hb
theorem Onl.put {b : Nat} {a w : World} (h : Onl b a w) (z : Nat) (hz : a.heap.size ≤ z) (vs : Array Value) : Onl b a (put w z vs) := by
  have hb0 := put_below (Below.refl 0 w) z (Nat.zero_le _) vs
  refine ⟨hb0.os.trans h.os, hb0.tape.trans h.tape, hb0.output.trans h.output, ?_, fun j hj hb => ?_⟩
  · rw [put_size]; exact h.size
  · rw [put_other (by omega)]; exact h.block j hj hb
theorem Since.put {S : Nat → Prop} {z : Nat} (hz : ¬ S z) (w : World) (vs : Array Value) : Since S w (put w z vs) :=
  ⟨Nat.le_of_eq (put_size _ _ _).symm, fun k hk _ => put_other (fun (e : k = z) => hz (e ▸ hk)) _⟩
theorem Ps.put {w : World} {b : Nat} {p : Option Addr} {c : Nat} {ws : List Wd} {s : PS} (H : Ps w b p c ws s) {z : Nat} (hbz : b < z) (hgz : ∀ g, p = some ⟨g, 0, none⟩ → g < z) (vs : Array Value) : Ps (put w z vs) b p c ws s :=
  H.kept (z := z) hbz hgz (fun _ hj => put_other hj vs) (Nat.le_of_eq (put_size _ _ _).symm)
/- At the list of a region's operations. -/
theorem wpList_put {ops : Array Oper} {rest : List Oper} {op : Oper} {a : Act} {w : World} {Q : Exit → Act → World → Prop} (hgd : op.guard = none) (ty : TypeId) (x y : Operand) (ho : op.op = .store ty x y) (hds : op.dst = none)
    {z : Nat} {cs vs : Array Value} {t : TypeId} (hx : a.eval x = .pointer (some ⟨z, 0, none⟩)) (hy : a.eval y = .agg vs) (h0 : w.heap[z]? = some (.cells cs t (0, 0))) (hn : vs.size = cs.size) (hi : (Tryz.prog.info? ty).map (·.size) = some vs.size) (h1 : vs.all (·.oneCell') = true)
    (h : wpList Tryz.prog ops Q rest a (put w z vs)) : wpList Tryz.prog ops Q (op :: rest) a w := by
  refine wpList_store_mid hgd ty x y ho z 0 vs hx hy (there_of_row h0 (by omega)) hi h1 ?_
  rw [hds]
  exact h
theorem wpList_get {ops : Array Oper} {rest : List Oper} {op : Oper} {a : Act} {w : World} {Q : Exit → Act → World → Prop} (hgd : op.guard = none) (ty : TypeId) (x : Operand) (ho : op.op = .load ty x)
    {z : Nat} {cs : Array Value} {t : TypeId} (hx : a.eval x = .pointer (some ⟨z, 0, none⟩)) (h0 : w.heap[z]? = some (.cells cs t (0, 0))) {d : TypeDesc} (hu : Tryz.prog.underlying ty = some d) (hd : d.isRow = true) (hi : (Tryz.prog.info? ty).map (·.size) = some cs.size)
    (h : wpList Tryz.prog ops Q rest (a.put op.dst (.agg cs)) w) : wpList Tryz.prog ops Q (op :: rest) a w := by
  refine wpList_load_mid hgd ty x ho z 0 hx cs.toList d (fun j v hv => by rw [Nat.zero_add, cell_of_row w z j cs t _ h0]; simpa using hv) hu hd (by simpa using hi) ?_
  simpa using h
theorem info25 : (Tryz.prog.info? 25).map (·.size) = some 6 := by kernel_rfl
theorem info28 : (Tryz.prog.info? 28).map (·.size) = some 10 := by kernel_rfl
theorem info98 : (Tryz.prog.info? 125).map (·.size) = some 11 := by kernel_rfl
theorem info30 : (Tryz.prog.info? 61).map (·.size) = some 31 := by kernel_rfl
end Go.Proofs.YtnnclhmhbmbkfaaGreatDoor
namespace Go.Proofs.YtnnclhmhbmbkfaaGreatDoor
open Go.RowKit Go.Shelf
attribute [local go_sem] Oper.semAt_some
theorem Below.row {w w' : World} {k : Nat} {o : Obj} (hb : Below w.heap.size w w') (h : w.heap[k]? = some o) : w'.heap[k]? = some o := (hb.block k (lt_of_row h)).trans h
set_option maxRecDepth 100000 in
set_option maxHeartbeats 2000000 in
theorem number_over (n m : Int) (p : Option Addr) (pc : Nat) (q : Option Addr) (qc : Nat) (hr : ∀ W : World, Calls Tryz.prog 98 #[.string ⟨#[43]⟩, .int .i64 n, .int .i64 1] W fun r w' => r = .returned (.tuple #[.int .i64 m, .bool false]) ∧ w' = W) (w : World) :
    Calls Tryz.prog 67 #[.string ⟨#[43]⟩, (ipL n p pc q qc).val, (inL 1).val] w fun r w' => r = .returned (.tuple #[(noL).val, .int .i64 180]) ∧ Below w.heap.size w w' := by
  have k1 := numeric_int n p pc q qc
  have k2 := numeric_int 1 none 0 none 0
  have ki := V.vint m
  change ∀ W, Calls Tryz.prog 97 #[.agg #[.int .i64 2, .bool false, .int .i64 n, .string ⟨#[]⟩, .slice p 0 pc, .slice q 0 qc]] W _ at k1
  change ∀ W, Calls Tryz.prog 97 #[.agg #[.int .i64 2, .bool false, .int .i64 1, .string ⟨#[]⟩, .slice none 0 0, .slice none 0 0]] W _ at k2
  change ∀ W, Calls Tryz.prog 16 #[.int .i64 m] W (fun r w' => r = .returned (.agg #[.int .i64 2, .bool false, .int .i64 m, .string ⟨#[]⟩, .slice none 0 0, .slice none 0 0]) ∧ Below W.heap.size W w') at ki
  obtain ⟨w3, hw3⟩ : ∃ u, (((w.alloc (.cells #[.int .i64 2, .bool false, .int .i64 n, .string ⟨#[]⟩, .slice p 0 pc, .slice q 0 qc] 25)).alloc (.cells #[.int .i64 2, .bool false, .int .i64 1, .string ⟨#[]⟩, .slice none 0 0, .slice none 0 0] 25)).alloc (.cells #[.int .i64 0, .bool false, .int .i64 0, .string ⟨#[]⟩, .slice none 0 0, .slice none 0 0] 25)) = u := ⟨_, rfl⟩
  obtain ⟨rw30, rw31, rw32, bw3⟩ := alloc3 hw3
  have HWw3 := mkHid hw3
  have cx0 : w3.cell? ⟨w.heap.size, 0, none⟩ = some (.int .i64 2) := cell_of_row w3 _ 0 _ _ _ rw30
  have cx1 : w3.cell? ⟨w.heap.size, 1, none⟩ = some (.bool false) := cell_of_row w3 _ 1 _ _ _ rw30
  have cx2 : w3.cell? ⟨w.heap.size, 2, none⟩ = some (.int .i64 n) := cell_of_row w3 _ 2 _ _ _ rw30
  have cx3 : w3.cell? ⟨w.heap.size, 3, none⟩ = some (.string ⟨#[]⟩) := cell_of_row w3 _ 3 _ _ _ rw30
  have cx4 : w3.cell? ⟨w.heap.size, 4, none⟩ = some (.slice p 0 pc) := cell_of_row w3 _ 4 _ _ _ rw30
  have cx5 : w3.cell? ⟨w.heap.size, 5, none⟩ = some (.slice q 0 qc) := cell_of_row w3 _ 5 _ _ _ rw30
  have aR : Hid (w3.heap[w.heap.size]? = some (.cells #[.int .i64 2, .bool false, .int .i64 n, .string ⟨#[]⟩, .slice p 0 pc, .slice q 0 qc] 25 (0, 0)) ∧ w3.heap[w.heap.size + 1]? = some (.cells #[.int .i64 2, .bool false, .int .i64 1, .string ⟨#[]⟩, .slice none 0 0, .slice none 0 0] 25 (0, 0)) ∧ w3.heap[w.heap.size + 1 + 1]? = some (.cells #[.int .i64 0, .bool false, .int .i64 0, .string ⟨#[]⟩, .slice none 0 0, .slice none 0 0] 25 (0, 0)) ∧ Below w.heap.size w w3) := ⟨rw30, rw31, rw32, bw3⟩
  clear hw3 rw30 rw31 rw32 bw3
  show Calls Tryz.prog 67 #[.string ⟨#[43]⟩, .agg #[.int .i64 2, .bool false, .int .i64 n, .string ⟨#[]⟩, .slice p 0 pc, .slice q 0 qc], .agg #[.int .i64 2, .bool false, .int .i64 1, .string ⟨#[]⟩, .slice none 0 0, .slice none 0 0]] w _
  go_enter Tryz.func67, Tryz.ntmps67
  go_wp2_with (first | rw [HWw3.out] | fail)
  refine (k1 _).mono ?_
  rintro r w4 ⟨rfl, hb4⟩
  have bR : Hid (w4.heap[w.heap.size]? = some (.cells #[.int .i64 2, .bool false, .int .i64 n, .string ⟨#[]⟩, .slice p 0 pc, .slice q 0 qc] 25 (0, 0)) ∧ w4.heap[w.heap.size + 1]? = some (.cells #[.int .i64 2, .bool false, .int .i64 1, .string ⟨#[]⟩, .slice none 0 0, .slice none 0 0] 25 (0, 0)) ∧ w4.heap[w.heap.size + 1 + 1]? = some (.cells #[.int .i64 0, .bool false, .int .i64 0, .string ⟨#[]⟩, .slice none 0 0, .slice none 0 0] 25 (0, 0)) ∧ Below w.heap.size w w4) := ⟨Below.row hb4 aR.out.1, Below.row hb4 aR.out.2.1, Below.row hb4 aR.out.2.2.1, aR.out.2.2.2.trans (hb4.mono aR.out.2.2.2.size)⟩
  have cy0 : w4.cell? ⟨w.heap.size + 1, 0, none⟩ = some (.int .i64 2) := cell_of_row w4 _ 0 _ _ _ bR.out.2.1
  have cy1 : w4.cell? ⟨w.heap.size + 1, 1, none⟩ = some (.bool false) := cell_of_row w4 _ 1 _ _ _ bR.out.2.1
  have cy2 : w4.cell? ⟨w.heap.size + 1, 2, none⟩ = some (.int .i64 1) := cell_of_row w4 _ 2 _ _ _ bR.out.2.1
  have cy3 : w4.cell? ⟨w.heap.size + 1, 3, none⟩ = some (.string ⟨#[]⟩) := cell_of_row w4 _ 3 _ _ _ bR.out.2.1
  have cy4 : w4.cell? ⟨w.heap.size + 1, 4, none⟩ = some (.slice none 0 0) := cell_of_row w4 _ 4 _ _ _ bR.out.2.1
  have cy5 : w4.cell? ⟨w.heap.size + 1, 5, none⟩ = some (.slice none 0 0) := cell_of_row w4 _ 5 _ _ _ bR.out.2.1
  clear cx0 cx1 cx2 cx3 cx4 cx5 aR hb4 HWw3
  go_wp2_with fail
  refine (k2 _).mono ?_
  rintro r w5 ⟨rfl, hb5⟩
  have cR : Hid (w5.heap[w.heap.size]? = some (.cells #[.int .i64 2, .bool false, .int .i64 n, .string ⟨#[]⟩, .slice p 0 pc, .slice q 0 qc] 25 (0, 0)) ∧ w5.heap[w.heap.size + 1]? = some (.cells #[.int .i64 2, .bool false, .int .i64 1, .string ⟨#[]⟩, .slice none 0 0, .slice none 0 0] 25 (0, 0)) ∧ w5.heap[w.heap.size + 1 + 1]? = some (.cells #[.int .i64 0, .bool false, .int .i64 0, .string ⟨#[]⟩, .slice none 0 0, .slice none 0 0] 25 (0, 0)) ∧ Below w.heap.size w w5) := ⟨Below.row hb5 bR.out.1, Below.row hb5 bR.out.2.1, Below.row hb5 bR.out.2.2.1, bR.out.2.2.2.trans (hb5.mono bR.out.2.2.2.size)⟩
  have dx0 : w5.cell? ⟨w.heap.size, 0, none⟩ = some (.int .i64 2) := cell_of_row w5 _ 0 _ _ _ cR.out.1
  have dx2 : w5.cell? ⟨w.heap.size, 2, none⟩ = some (.int .i64 n) := cell_of_row w5 _ 2 _ _ _ cR.out.1
  have dy0 : w5.cell? ⟨w.heap.size + 1, 0, none⟩ = some (.int .i64 2) := cell_of_row w5 _ 0 _ _ _ cR.out.2.1
  have dy2 : w5.cell? ⟨w.heap.size + 1, 2, none⟩ = some (.int .i64 1) := cell_of_row w5 _ 2 _ _ _ cR.out.2.1
  clear cy0 cy1 cy2 cy3 cy4 cy5 bR hb5
  go_wp2_with fail
  refine (hr _).mono ?_
  rintro r w6 ⟨rfl, rfl⟩
  go_wp2_with (first | (refine wpList_put rfl 25 (.tmp 6) (.tmp 39) rfl rfl rfl rfl cR.out.2.2.1 rfl info25 (by simp [Value.oneCell']) ?_) | fail)
  exact bodyPost_ret (results_row_tmp Tryz.results67 _ _ (w.heap.size + 1 + 1) 25 _ (0, 0) _ rfl (put_row _ cR.out.2.2.1 rfl) Tryz.underlying25 rfl info25) rfl ⟨rfl, put_below cR.out.2.2.2 _ (by omega) _⟩
set_option maxRecDepth 100000 in
set_option maxHeartbeats 2000000 in
theorem number_ok (n m : Int) (p : Option Addr) (pc : Nat) (q : Option Addr) (qc : Nat) (hr : ∀ W : World, Calls Tryz.prog 98 #[.string ⟨#[43]⟩, .int .i64 n, .int .i64 1] W fun r w' => r = .returned (.tuple #[.int .i64 m, .bool true]) ∧ w' = W) (w : World) :
    Calls Tryz.prog 67 #[.string ⟨#[43]⟩, (ipL n p pc q qc).val, (inL 1).val] w fun r w' => r = .returned (.tuple #[(inL m).val, .int .i64 0]) ∧ Below w.heap.size w w' := by
  have k1 := numeric_int n p pc q qc
  have k2 := numeric_int 1 none 0 none 0
  have ki := V.vint m
  change ∀ W, Calls Tryz.prog 97 #[.agg #[.int .i64 2, .bool false, .int .i64 n, .string ⟨#[]⟩, .slice p 0 pc, .slice q 0 qc]] W _ at k1
  change ∀ W, Calls Tryz.prog 97 #[.agg #[.int .i64 2, .bool false, .int .i64 1, .string ⟨#[]⟩, .slice none 0 0, .slice none 0 0]] W _ at k2
  change ∀ W, Calls Tryz.prog 16 #[.int .i64 m] W (fun r w' => r = .returned (.agg #[.int .i64 2, .bool false, .int .i64 m, .string ⟨#[]⟩, .slice none 0 0, .slice none 0 0]) ∧ Below W.heap.size W w') at ki
  obtain ⟨w3, hw3⟩ : ∃ u, (((w.alloc (.cells #[.int .i64 2, .bool false, .int .i64 n, .string ⟨#[]⟩, .slice p 0 pc, .slice q 0 qc] 25)).alloc (.cells #[.int .i64 2, .bool false, .int .i64 1, .string ⟨#[]⟩, .slice none 0 0, .slice none 0 0] 25)).alloc (.cells #[.int .i64 0, .bool false, .int .i64 0, .string ⟨#[]⟩, .slice none 0 0, .slice none 0 0] 25)) = u := ⟨_, rfl⟩
  obtain ⟨rw30, rw31, rw32, bw3⟩ := alloc3 hw3
  have HWw3 := mkHid hw3
  have cx0 : w3.cell? ⟨w.heap.size, 0, none⟩ = some (.int .i64 2) := cell_of_row w3 _ 0 _ _ _ rw30
  have cx1 : w3.cell? ⟨w.heap.size, 1, none⟩ = some (.bool false) := cell_of_row w3 _ 1 _ _ _ rw30
  have cx2 : w3.cell? ⟨w.heap.size, 2, none⟩ = some (.int .i64 n) := cell_of_row w3 _ 2 _ _ _ rw30
  have cx3 : w3.cell? ⟨w.heap.size, 3, none⟩ = some (.string ⟨#[]⟩) := cell_of_row w3 _ 3 _ _ _ rw30
  have cx4 : w3.cell? ⟨w.heap.size, 4, none⟩ = some (.slice p 0 pc) := cell_of_row w3 _ 4 _ _ _ rw30
  have cx5 : w3.cell? ⟨w.heap.size, 5, none⟩ = some (.slice q 0 qc) := cell_of_row w3 _ 5 _ _ _ rw30
  have aR : Hid (w3.heap[w.heap.size]? = some (.cells #[.int .i64 2, .bool false, .int .i64 n, .string ⟨#[]⟩, .slice p 0 pc, .slice q 0 qc] 25 (0, 0)) ∧ w3.heap[w.heap.size + 1]? = some (.cells #[.int .i64 2, .bool false, .int .i64 1, .string ⟨#[]⟩, .slice none 0 0, .slice none 0 0] 25 (0, 0)) ∧ w3.heap[w.heap.size + 1 + 1]? = some (.cells #[.int .i64 0, .bool false, .int .i64 0, .string ⟨#[]⟩, .slice none 0 0, .slice none 0 0] 25 (0, 0)) ∧ Below w.heap.size w w3) := ⟨rw30, rw31, rw32, bw3⟩
  clear hw3 rw30 rw31 rw32 bw3
  show Calls Tryz.prog 67 #[.string ⟨#[43]⟩, .agg #[.int .i64 2, .bool false, .int .i64 n, .string ⟨#[]⟩, .slice p 0 pc, .slice q 0 qc], .agg #[.int .i64 2, .bool false, .int .i64 1, .string ⟨#[]⟩, .slice none 0 0, .slice none 0 0]] w _
  go_enter Tryz.func67, Tryz.ntmps67
  go_wp2_with (first | rw [HWw3.out] | fail)
  refine (k1 _).mono ?_
  rintro r w4 ⟨rfl, hb4⟩
  have bR : Hid (w4.heap[w.heap.size]? = some (.cells #[.int .i64 2, .bool false, .int .i64 n, .string ⟨#[]⟩, .slice p 0 pc, .slice q 0 qc] 25 (0, 0)) ∧ w4.heap[w.heap.size + 1]? = some (.cells #[.int .i64 2, .bool false, .int .i64 1, .string ⟨#[]⟩, .slice none 0 0, .slice none 0 0] 25 (0, 0)) ∧ w4.heap[w.heap.size + 1 + 1]? = some (.cells #[.int .i64 0, .bool false, .int .i64 0, .string ⟨#[]⟩, .slice none 0 0, .slice none 0 0] 25 (0, 0)) ∧ Below w.heap.size w w4) := ⟨Below.row hb4 aR.out.1, Below.row hb4 aR.out.2.1, Below.row hb4 aR.out.2.2.1, aR.out.2.2.2.trans (hb4.mono aR.out.2.2.2.size)⟩
  have cy0 : w4.cell? ⟨w.heap.size + 1, 0, none⟩ = some (.int .i64 2) := cell_of_row w4 _ 0 _ _ _ bR.out.2.1
  have cy1 : w4.cell? ⟨w.heap.size + 1, 1, none⟩ = some (.bool false) := cell_of_row w4 _ 1 _ _ _ bR.out.2.1
  have cy2 : w4.cell? ⟨w.heap.size + 1, 2, none⟩ = some (.int .i64 1) := cell_of_row w4 _ 2 _ _ _ bR.out.2.1
  have cy3 : w4.cell? ⟨w.heap.size + 1, 3, none⟩ = some (.string ⟨#[]⟩) := cell_of_row w4 _ 3 _ _ _ bR.out.2.1
  have cy4 : w4.cell? ⟨w.heap.size + 1, 4, none⟩ = some (.slice none 0 0) := cell_of_row w4 _ 4 _ _ _ bR.out.2.1
  have cy5 : w4.cell? ⟨w.heap.size + 1, 5, none⟩ = some (.slice none 0 0) := cell_of_row w4 _ 5 _ _ _ bR.out.2.1
  clear cx0 cx1 cx2 cx3 cx4 cx5 aR hb4 HWw3
  go_wp2_with fail
  refine (k2 _).mono ?_
  rintro r w5 ⟨rfl, hb5⟩
  have cR : Hid (w5.heap[w.heap.size]? = some (.cells #[.int .i64 2, .bool false, .int .i64 n, .string ⟨#[]⟩, .slice p 0 pc, .slice q 0 qc] 25 (0, 0)) ∧ w5.heap[w.heap.size + 1]? = some (.cells #[.int .i64 2, .bool false, .int .i64 1, .string ⟨#[]⟩, .slice none 0 0, .slice none 0 0] 25 (0, 0)) ∧ w5.heap[w.heap.size + 1 + 1]? = some (.cells #[.int .i64 0, .bool false, .int .i64 0, .string ⟨#[]⟩, .slice none 0 0, .slice none 0 0] 25 (0, 0)) ∧ Below w.heap.size w w5) := ⟨Below.row hb5 bR.out.1, Below.row hb5 bR.out.2.1, Below.row hb5 bR.out.2.2.1, bR.out.2.2.2.trans (hb5.mono bR.out.2.2.2.size)⟩
  have dx0 : w5.cell? ⟨w.heap.size, 0, none⟩ = some (.int .i64 2) := cell_of_row w5 _ 0 _ _ _ cR.out.1
  have dx2 : w5.cell? ⟨w.heap.size, 2, none⟩ = some (.int .i64 n) := cell_of_row w5 _ 2 _ _ _ cR.out.1
  have dy0 : w5.cell? ⟨w.heap.size + 1, 0, none⟩ = some (.int .i64 2) := cell_of_row w5 _ 0 _ _ _ cR.out.2.1
  have dy2 : w5.cell? ⟨w.heap.size + 1, 2, none⟩ = some (.int .i64 1) := cell_of_row w5 _ 2 _ _ _ cR.out.2.1
  clear cy0 cy1 cy2 cy3 cy4 cy5 bR hb5
  go_wp2_with fail
  refine (hr _).mono ?_
  rintro r w6 ⟨rfl, rfl⟩
  go_wp2_with fail
  refine (ki _).mono ?_
  rintro r w7 ⟨rfl, hb7⟩
  have dR : Hid (w7.heap[w.heap.size]? = some (.cells #[.int .i64 2, .bool false, .int .i64 n, .string ⟨#[]⟩, .slice p 0 pc, .slice q 0 qc] 25 (0, 0)) ∧ w7.heap[w.heap.size + 1]? = some (.cells #[.int .i64 2, .bool false, .int .i64 1, .string ⟨#[]⟩, .slice none 0 0, .slice none 0 0] 25 (0, 0)) ∧ w7.heap[w.heap.size + 1 + 1]? = some (.cells #[.int .i64 0, .bool false, .int .i64 0, .string ⟨#[]⟩, .slice none 0 0, .slice none 0 0] 25 (0, 0)) ∧ Below w.heap.size w w7) := ⟨Below.row hb7 cR.out.1, Below.row hb7 cR.out.2.1, Below.row hb7 cR.out.2.2.1, cR.out.2.2.2.trans (hb7.mono cR.out.2.2.2.size)⟩
  go_wp2_with (first | (refine wpList_put rfl 25 (.tmp 6) (.tmp 41) rfl rfl rfl rfl dR.out.2.2.1 rfl info25 (by simp [Value.oneCell']) ?_) | fail)
  exact bodyPost_ret (results_row_tmp Tryz.results67 _ _ (w.heap.size + 1 + 1) 25 _ (0, 0) _ rfl (put_row _ dR.out.2.2.1 rfl) Tryz.underlying25 rfl info25) rfl ⟨rfl, put_below dR.out.2.2.2 _ (by omega) _⟩
end Go.Proofs.YtnnclhmhbmbkfaaGreatDoor
namespace Go.Proofs.YtnnclhmhbmbkfaaGreatDoor
open Go.RowKit Go.Shelf
attribute [local go_sem] Oper.semAt_some fw0 fw1 fw2
def zero6 : Array Value := #[.int .i64 0, .bool false, .int .i64 0, .string ⟨#[]⟩, .slice none 0 0, .slice none 0 0]
def arr6 (k : Int) (b : Bool) (n : Int) (s : ByteArray) : Array Value := #[.int .i64 k, .bool b, .int .i64 n, .string s, .slice none 0 0, .slice none 0 0]
theorem arr6_one (k : Int) (b : Bool) (n : Int) (s : ByteArray) : (arr6 k b n s).all (·.oneCell') = true := by simp [arr6, Value.oneCell']
def keyV (l : List UInt8) : Option (Nat × Bool × Int × ByteArray) :=
  if l = [78, 85, 76, 76] then some (0, false, 0, ⟨#[]⟩) else if l = [84, 82, 85, 69] then some (1, true, 0, ⟨#[]⟩) else if l = [70, 65, 76, 83, 69] then some (1, false, 0, ⟨#[]⟩) else none
def optV (v : Option (Nat × Bool × Int × ByteArray)) : Value :=
  match v with
  | some v => .tuple #[.agg (arr6 v.1 v.2.1 v.2.2.1 v.2.2.2), .bool true]
  | none => .tuple #[.agg (arr6 0 false 0 ⟨#[]⟩), .bool false]

set_option maxRecDepth 100000 in
set_option maxHeartbeats 4000000 in
theorem keyValue_null (w : World) : Calls Tryz.prog 182 #[.string ⟨#[78, 85, 76, 76]⟩] w fun r w' => r = .returned (.tuple #[.agg (arr6 0 false 0 ⟨#[]⟩), .bool true]) ∧ Below w.heap.size w w' := by
  obtain ⟨w1, hw1⟩ : ∃ w1, w.alloc (.cells #[.int .i64 0, .bool false, .int .i64 0, .string ⟨#[]⟩, .slice none 0 0, .slice none 0 0] 25) = w1 := ⟨_, rfl⟩
  have hb1 : Below w.heap.size w w1 := by rw [← hw1]; exact (Below.refl _ w).alloc (Nat.le_refl _) _
  have rz1 : w1.heap[w.heap.size]? = some (.cells zero6 25 (0, 0)) := by rw [← hw1]; exact heap_alloc_new _ _
  have k1 := vnone_any w1
  have k2 : Calls Tryz.prog 18 #[] w1 fun r w' => r = .returned (.agg (arr6 0 false 0 ⟨#[]⟩)) ∧ Below w1.heap.size w1 w' := k1
  obtain ⟨V, hV⟩ : ∃ V, arr6 0 false 0 ⟨#[]⟩ = V := ⟨_, rfl⟩
  have h6 : V.size = 6 := by rw [← hV]; rfl
  have h1 : V.all (·.oneCell') = true := by rw [← hV]; exact arr6_one _ _ _ _
  rw [hV] at k2 ⊢
  have H6 : Hid (V.size = 6 ∧ V.all (·.oneCell') = true) := ⟨h6, h1⟩
  have HB : Hid (Below w.heap.size w w1) := hb1
  clear hb1 k1 hV h6 h1
  go_enter Tryz.func182, Tryz.ntmps182
  go_wp2_with fail
  refine k2.mono ?_
  rintro q w2 ⟨rfl, hb2⟩
  have rz2 := (hb2.block _ (lt_of_row rz1)).trans rz1
  have HB2 : Hid (Below w1.heap.size w1 w2 ∧ w2.heap[w.heap.size]? = some (.cells zero6 25 (0, 0))) := ⟨hb2, rz2⟩
  clear k2 hb2 rz1 rz2 hw1
  go_wp2_with (refine wpList_put rfl 25 (.tmp 2) (.tmp 7) rfl rfl rfl rfl HB2.out.2 H6.out.1 (info25.trans (congrArg some H6.out.1.symm)) H6.out.2 ?_)
  exact bodyPost_ret (results_row_tmp Tryz.results182 _ _ w.heap.size 25 _ (0, 0) _ rfl (put_row V HB2.out.2 H6.out.1) Tryz.underlying25 rfl (info25.trans (congrArg some H6.out.1.symm))) rfl ⟨rfl, put_below (HB.out.trans (HB2.out.1.mono HB.out.size)) _ (Nat.le_refl _) _⟩
set_option maxRecDepth 100000 in
set_option maxHeartbeats 4000000 in
theorem keyValue_true (w : World) : Calls Tryz.prog 182 #[.string ⟨#[84, 82, 85, 69]⟩] w fun r w' => r = .returned (.tuple #[.agg (arr6 1 true 0 ⟨#[]⟩), .bool true]) ∧ Below w.heap.size w w' := by
  obtain ⟨w1, hw1⟩ : ∃ w1, w.alloc (.cells #[.int .i64 0, .bool false, .int .i64 0, .string ⟨#[]⟩, .slice none 0 0, .slice none 0 0] 25) = w1 := ⟨_, rfl⟩
  have hb1 : Below w.heap.size w w1 := by rw [← hw1]; exact (Below.refl _ w).alloc (Nat.le_refl _) _
  have rz1 : w1.heap[w.heap.size]? = some (.cells zero6 25 (0, 0)) := by rw [← hw1]; exact heap_alloc_new _ _
  have k1 := vbool_any true w1
  have k2 : Calls Tryz.prog 32 #[.bool true] w1 fun r w' => r = .returned (.agg (arr6 1 true 0 ⟨#[]⟩)) ∧ Below w1.heap.size w1 w' := k1
  obtain ⟨V, hV⟩ : ∃ V, arr6 1 true 0 ⟨#[]⟩ = V := ⟨_, rfl⟩
  have h6 : V.size = 6 := by rw [← hV]; rfl
  have h1 : V.all (·.oneCell') = true := by rw [← hV]; exact arr6_one _ _ _ _
  rw [hV] at k2 ⊢
  have H6 : Hid (V.size = 6 ∧ V.all (·.oneCell') = true) := ⟨h6, h1⟩
  have HB : Hid (Below w.heap.size w w1) := hb1
  clear hb1 k1 hV h6 h1
  go_enter Tryz.func182, Tryz.ntmps182
  go_wp2_with fail
  refine k2.mono ?_
  rintro q w2 ⟨rfl, hb2⟩
  have rz2 := (hb2.block _ (lt_of_row rz1)).trans rz1
  have HB2 : Hid (Below w1.heap.size w1 w2 ∧ w2.heap[w.heap.size]? = some (.cells zero6 25 (0, 0))) := ⟨hb2, rz2⟩
  clear k2 hb2 rz1 rz2 hw1
  go_wp2_with (refine wpList_put rfl 25 (.tmp 2) (.tmp 10) rfl rfl rfl rfl HB2.out.2 H6.out.1 (info25.trans (congrArg some H6.out.1.symm)) H6.out.2 ?_)
  exact bodyPost_ret (results_row_tmp Tryz.results182 _ _ w.heap.size 25 _ (0, 0) _ rfl (put_row V HB2.out.2 H6.out.1) Tryz.underlying25 rfl (info25.trans (congrArg some H6.out.1.symm))) rfl ⟨rfl, put_below (HB.out.trans (HB2.out.1.mono HB.out.size)) _ (Nat.le_refl _) _⟩
set_option maxRecDepth 100000 in
set_option maxHeartbeats 4000000 in
theorem keyValue_false (w : World) : Calls Tryz.prog 182 #[.string ⟨#[70, 65, 76, 83, 69]⟩] w fun r w' => r = .returned (.tuple #[.agg (arr6 1 false 0 ⟨#[]⟩), .bool true]) ∧ Below w.heap.size w w' := by
  obtain ⟨w1, hw1⟩ : ∃ w1, w.alloc (.cells #[.int .i64 0, .bool false, .int .i64 0, .string ⟨#[]⟩, .slice none 0 0, .slice none 0 0] 25) = w1 := ⟨_, rfl⟩
  have hb1 : Below w.heap.size w w1 := by rw [← hw1]; exact (Below.refl _ w).alloc (Nat.le_refl _) _
  have rz1 : w1.heap[w.heap.size]? = some (.cells zero6 25 (0, 0)) := by rw [← hw1]; exact heap_alloc_new _ _
  have k1 := vbool_any false w1
  have k2 : Calls Tryz.prog 32 #[.bool false] w1 fun r w' => r = .returned (.agg (arr6 1 false 0 ⟨#[]⟩)) ∧ Below w1.heap.size w1 w' := k1
  obtain ⟨V, hV⟩ : ∃ V, arr6 1 false 0 ⟨#[]⟩ = V := ⟨_, rfl⟩
  have h6 : V.size = 6 := by rw [← hV]; rfl
  have h1 : V.all (·.oneCell') = true := by rw [← hV]; exact arr6_one _ _ _ _
  rw [hV] at k2 ⊢
  have H6 : Hid (V.size = 6 ∧ V.all (·.oneCell') = true) := ⟨h6, h1⟩
  have HB : Hid (Below w.heap.size w w1) := hb1
  clear hb1 k1 hV h6 h1
  go_enter Tryz.func182, Tryz.ntmps182
  go_wp2_with fail
  refine k2.mono ?_
  rintro q w2 ⟨rfl, hb2⟩
  have rz2 := (hb2.block _ (lt_of_row rz1)).trans rz1
  have HB2 : Hid (Below w1.heap.size w1 w2 ∧ w2.heap[w.heap.size]? = some (.cells zero6 25 (0, 0))) := ⟨hb2, rz2⟩
  clear k2 hb2 rz1 rz2 hw1
  go_wp2_with (refine wpList_put rfl 25 (.tmp 2) (.tmp 13) rfl rfl rfl rfl HB2.out.2 H6.out.1 (info25.trans (congrArg some H6.out.1.symm)) H6.out.2 ?_)
  exact bodyPost_ret (results_row_tmp Tryz.results182 _ _ w.heap.size 25 _ (0, 0) _ rfl (put_row V HB2.out.2 H6.out.1) Tryz.underlying25 rfl (info25.trans (congrArg some H6.out.1.symm))) rfl ⟨rfl, put_below (HB.out.trans (HB2.out.1.mono HB.out.size)) _ (Nat.le_refl _) _⟩
set_option maxRecDepth 100000 in
set_option maxHeartbeats 4000000 in
theorem keyValue_none (t : ByteArray) (h1 : (t.toList == [78, 85, 76, 76]) = false) (h2 : (t.toList == [84, 82, 85, 69]) = false) (h3 : (t.toList == [70, 65, 76, 83, 69]) = false) (w : World) : Calls Tryz.prog 182 #[.string t] w fun r w' => r = .returned (.tuple #[.agg (arr6 0 false 0 ⟨#[]⟩), .bool false]) ∧ Below w.heap.size w w' := by
  obtain ⟨w1, hw1⟩ : ∃ w1, w.alloc (.cells #[.int .i64 0, .bool false, .int .i64 0, .string ⟨#[]⟩, .slice none 0 0, .slice none 0 0] 25) = w1 := ⟨_, rfl⟩
  have hb1 : Below w.heap.size w w1 := by rw [← hw1]; exact (Below.refl _ w).alloc (Nat.le_refl _) _
  have rz1 : w1.heap[w.heap.size]? = some (.cells zero6 25 (0, 0)) := by rw [← hw1]; exact heap_alloc_new _ _
  have HB : Hid (Below w.heap.size w w1 ∧ w1.heap[w.heap.size]? = some (.cells zero6 25 (0, 0))) := ⟨hb1, rz1⟩
  clear hb1 rz1
  go_enter Tryz.func182, Tryz.ntmps182
  go_wp2_with (refine wpList_put rfl 25 (.tmp 2) (.tmp 14) rfl rfl rfl rfl HB.out.2 rfl info25 (by simp [Value.oneCell']) ?_)
  exact bodyPost_ret (results_row_tmp Tryz.results182 _ _ w.heap.size 25 _ (0, 0) _ rfl (put_row _ HB.out.2 rfl) Tryz.underlying25 rfl info25) rfl ⟨rfl, put_below HB.out.1 _ (Nat.le_refl _) _⟩
theorem ba_of {t : ByteArray} {l : List UInt8} (h : t.data.toList = l) : t = ⟨l.toArray⟩ := by
  subst h
  rfl
theorem keyValue_any (t : ByteArray) (w : World) : Calls Tryz.prog 182 #[.string t] w fun r w' => r = .returned (optV (keyV t.data.toList)) ∧ Below w.heap.size w w' := by
  unfold keyV
  split
  · next h => rw [ba_of h]; exact keyValue_null w
  · next h1 =>
    split
    · next h => rw [ba_of h]; exact keyValue_true w
    · next h2 =>
      split
      · next h => rw [ba_of h]; exact keyValue_false w
      · next h3 =>
        refine keyValue_none t ?_ ?_ ?_ w
        · rw [toList_data]; simpa using h1
        · rw [toList_data]; simpa using h2
        · rw [toList_data]; simpa using h3
end Go.Proofs.YtnnclhmhbmbkfaaGreatDoor
namespace Go.Proofs.YtnnclhmhbmbkfaaGreatDoor
open Go.RowKit Go.Shelf
attribute [local go_sem] Oper.semAt_some fw0 fw1 fw2
/- A word of digits says a number. -/
def NumOk (x : Wd) : Prop := x.k = 3 → ∃ v, Lib.parseIntB 64 x.s = .ok v
theorem parse_ok (x : Wd) (hs : x.s.length ≤ 10000) {v : Int} (h : Lib.parseIntB 64 x.s = .ok v) (w : World) :
    Calls Tryz.prog 108 #[.string (wdS x), .int .i64 10, .int .i64 64] w fun e w' => e = .returned (.tuple #[.int .i64 v, .nilIface]) ∧ Below w.heap.size w w' := by
  refine (Tryz.strconv_ParseInt_10_at64_ok (wdS x) (by unfold wdS; simp [ByteArray.size]; omega) v h w).mono ?_
  rintro e w' ⟨rfl, hw⟩
  refine ⟨rfl, ?_⟩
  rcases hw with rfl | ⟨u, rfl⟩
  · exact Below.refl _ _
  · exact Lib.bytesWorld_below _ _ _
set_option maxRecDepth 100000 in
set_option maxHeartbeats 4000000 in
theorem literalOf_str (x : Wd) (hk : (x.k : Int) = 4) (w : World) : Calls Tryz.prog 176 #[wdV x] w fun r w' => r = .returned (.tuple #[.agg (arr6 3 false 0 (wdS x)), .bool true]) ∧ Below w.heap.size w w' := by
  unfold wdV
  obtain ⟨t, ht⟩ : ∃ t, wdS x = t := ⟨_, rfl⟩
  obtain ⟨xa, hxa⟩ : ∃ xa, (x.a : Int) = xa := ⟨_, rfl⟩
  rw [hk, ht, hxa]
  obtain ⟨w2, hw2⟩ : ∃ w2, (w.alloc (.cells #[.int .i64 4, .string t, .int .i64 xa] 97)).alloc (.cells #[.int .i64 0, .bool false, .int .i64 0, .string ⟨#[]⟩, .slice none 0 0, .slice none 0 0] 25) = w2 := ⟨_, rfl⟩
  have hb2 : Below w.heap.size w w2 := by rw [← hw2]; exact ((Below.refl _ w).alloc (Nat.le_refl _) _).alloc (by simp) _
  have hs2 : w2.heap.size = w.heap.size + 1 + 1 := by rw [← hw2]; simp
  have rx2 : w2.heap[w.heap.size]? = some (.cells #[.int .i64 4, .string t, .int .i64 xa] 97 (0, 0)) := by rw [← hw2, Below.heap_alloc _ _ _ (by simp)]; exact heap_alloc_new _ _
  have rz2 : w2.heap[w.heap.size + 1]? = some (.cells zero6 25 (0, 0)) := by rw [← hw2]; exact two_new _ _ _
  have c0 := cell_of_row w2 _ 0 _ _ _ rx2
  have c1 := cell_of_row w2 _ 1 _ _ _ rx2
  have k1 : ∀ W, Calls Tryz.prog 180 #[.string t] W fun r w' => r = .returned (.agg (arr6 3 false 0 t)) ∧ Below W.heap.size W w' := fun W => vstr_any t W
  obtain ⟨V, hV⟩ : ∃ V, arr6 3 false 0 t = V := ⟨_, rfl⟩
  have h6 : V.size = 6 := by rw [← hV]; rfl
  have h1 : V.all (·.oneCell') = true := by rw [← hV]; exact arr6_one _ _ _ _
  rw [hV] at k1 ⊢
  have H6 : Hid (V.size = 6 ∧ V.all (·.oneCell') = true) := ⟨h6, h1⟩
  clear hV h6 h1
  have HB : Hid (Below w.heap.size w w2) := hb2
  clear hb2 rx2 hk ht hxa
  go_enter Tryz.func176, Tryz.ntmps176
  go_wp2_with fail
  refine (k1 _).mono ?_
  rintro q w3 ⟨rfl, hb3⟩
  have HB3 : Hid (Below w2.heap.size w2 w3 ∧ w3.heap[w.heap.size + 1]? = some (.cells zero6 25 (0, 0))) := ⟨hb3, (hb3.block _ (lt_of_row rz2)).trans rz2⟩
  clear k1 hb3 rz2 hw2 c0 c1
  go_wp2_with (refine wpList_put rfl 25 (.tmp 2) (.tmp 24) rfl rfl rfl rfl HB3.out.2 H6.out.1 (info25.trans (congrArg some H6.out.1.symm)) H6.out.2 ?_)
  exact bodyPost_ret (results_row_tmp Tryz.results176 _ _ (w.heap.size + 1) 25 _ (0, 0) _ rfl (put_row V HB3.out.2 H6.out.1) Tryz.underlying25 rfl (info25.trans (congrArg some H6.out.1.symm))) rfl ⟨rfl, put_below (HB.out.trans (HB3.out.1.mono HB.out.size)) _ (Nat.le_succ _) _⟩
set_option maxRecDepth 100000 in
set_option maxHeartbeats 4000000 in
theorem literalOf_hex (x : Wd) (hk : (x.k : Int) = 5) (w : World) : Calls Tryz.prog 176 #[wdV x] w fun r w' => r = .returned (.tuple #[.agg (arr6 4 false 0 (wdS x)), .bool true]) ∧ Below w.heap.size w w' := by
  unfold wdV
  obtain ⟨t, ht⟩ : ∃ t, wdS x = t := ⟨_, rfl⟩
  obtain ⟨xa, hxa⟩ : ∃ xa, (x.a : Int) = xa := ⟨_, rfl⟩
  rw [hk, ht, hxa]
  obtain ⟨w2, hw2⟩ : ∃ w2, (w.alloc (.cells #[.int .i64 5, .string t, .int .i64 xa] 97)).alloc (.cells #[.int .i64 0, .bool false, .int .i64 0, .string ⟨#[]⟩, .slice none 0 0, .slice none 0 0] 25) = w2 := ⟨_, rfl⟩
  have hb2 : Below w.heap.size w w2 := by rw [← hw2]; exact ((Below.refl _ w).alloc (Nat.le_refl _) _).alloc (by simp) _
  have hs2 : w2.heap.size = w.heap.size + 1 + 1 := by rw [← hw2]; simp
  have rx2 : w2.heap[w.heap.size]? = some (.cells #[.int .i64 5, .string t, .int .i64 xa] 97 (0, 0)) := by rw [← hw2, Below.heap_alloc _ _ _ (by simp)]; exact heap_alloc_new _ _
  have rz2 : w2.heap[w.heap.size + 1]? = some (.cells zero6 25 (0, 0)) := by rw [← hw2]; exact two_new _ _ _
  have c0 := cell_of_row w2 _ 0 _ _ _ rx2
  have c1 := cell_of_row w2 _ 1 _ _ _ rx2
  have k1 : ∀ W, Calls Tryz.prog 181 #[.string t] W fun r w' => r = .returned (.agg (arr6 4 false 0 t)) ∧ Below W.heap.size W w' := fun W => vbytes_any t W
  obtain ⟨V, hV⟩ : ∃ V, arr6 4 false 0 t = V := ⟨_, rfl⟩
  have h6 : V.size = 6 := by rw [← hV]; rfl
  have h1 : V.all (·.oneCell') = true := by rw [← hV]; exact arr6_one _ _ _ _
  rw [hV] at k1 ⊢
  have H6 : Hid (V.size = 6 ∧ V.all (·.oneCell') = true) := ⟨h6, h1⟩
  clear hV h6 h1
  have HB : Hid (Below w.heap.size w w2) := hb2
  clear hb2 rx2 hk ht hxa
  go_enter Tryz.func176, Tryz.ntmps176
  go_wp2_with fail
  refine (k1 _).mono ?_
  rintro q w3 ⟨rfl, hb3⟩
  have HB3 : Hid (Below w2.heap.size w2 w3 ∧ w3.heap[w.heap.size + 1]? = some (.cells zero6 25 (0, 0))) := ⟨hb3, (hb3.block _ (lt_of_row rz2)).trans rz2⟩
  clear k1 hb3 rz2 hw2 c0 c1
  go_wp2_with (refine wpList_put rfl 25 (.tmp 2) (.tmp 29) rfl rfl rfl rfl HB3.out.2 H6.out.1 (info25.trans (congrArg some H6.out.1.symm)) H6.out.2 ?_)
  exact bodyPost_ret (results_row_tmp Tryz.results176 _ _ (w.heap.size + 1) 25 _ (0, 0) _ rfl (put_row V HB3.out.2 H6.out.1) Tryz.underlying25 rfl (info25.trans (congrArg some H6.out.1.symm))) rfl ⟨rfl, put_below (HB.out.trans (HB3.out.1.mono HB.out.size)) _ (Nat.le_succ _) _⟩
set_option maxRecDepth 100000 in
set_option maxHeartbeats 4000000 in
theorem literalOf_key (x : Wd) (hk : (x.k : Int) = 2) (v : Nat × Bool × Int × ByteArray) (h : keyV x.s = some v) (w : World) : Calls Tryz.prog 176 #[wdV x] w fun r w' => r = .returned (optV (some v)) ∧ Below w.heap.size w w' := by
  have hd : (wdS x).data.toList = x.s := rfl
  have k0 : ∀ W, Calls Tryz.prog 182 #[.string (wdS x)] W fun r w' => r = .returned (optV (keyV (wdS x).data.toList)) ∧ Below W.heap.size W w' := fun W => keyValue_any _ W
  rw [hd, h] at k0
  clear h hd
  unfold optV at k0 ⊢
  dsimp only at k0 ⊢
  unfold wdV
  obtain ⟨t, ht⟩ : ∃ t, wdS x = t := ⟨_, rfl⟩
  obtain ⟨xa, hxa⟩ : ∃ xa, (x.a : Int) = xa := ⟨_, rfl⟩
  rw [hk, ht, hxa]
  obtain ⟨w2, hw2⟩ : ∃ w2, (w.alloc (.cells #[.int .i64 2, .string t, .int .i64 xa] 97)).alloc (.cells #[.int .i64 0, .bool false, .int .i64 0, .string ⟨#[]⟩, .slice none 0 0, .slice none 0 0] 25) = w2 := ⟨_, rfl⟩
  have hb2 : Below w.heap.size w w2 := by rw [← hw2]; exact ((Below.refl _ w).alloc (Nat.le_refl _) _).alloc (by simp) _
  have hs2 : w2.heap.size = w.heap.size + 1 + 1 := by rw [← hw2]; simp
  have rx2 : w2.heap[w.heap.size]? = some (.cells #[.int .i64 2, .string t, .int .i64 xa] 97 (0, 0)) := by rw [← hw2, Below.heap_alloc _ _ _ (by simp)]; exact heap_alloc_new _ _
  have rz2 : w2.heap[w.heap.size + 1]? = some (.cells zero6 25 (0, 0)) := by rw [← hw2]; exact two_new _ _ _
  have c0 := cell_of_row w2 _ 0 _ _ _ rx2
  have c1 := cell_of_row w2 _ 1 _ _ _ rx2
  rw [ht] at k0
  have k1 := k0
  clear k0
  obtain ⟨V, hV⟩ : ∃ V, arr6 v.1 v.2.1 v.2.2.1 v.2.2.2 = V := ⟨_, rfl⟩
  have h6 : V.size = 6 := by rw [← hV]; rfl
  have h1 : V.all (·.oneCell') = true := by rw [← hV]; exact arr6_one _ _ _ _
  rw [hV] at k1 ⊢
  have H6 : Hid (V.size = 6 ∧ V.all (·.oneCell') = true) := ⟨h6, h1⟩
  clear hV h6 h1
  have HB : Hid (Below w.heap.size w w2) := hb2
  clear hb2 rx2 hk ht hxa
  go_enter Tryz.func176, Tryz.ntmps176
  go_wp2_with fail
  refine (k1 _).mono ?_
  rintro q w3 ⟨rfl, hb3⟩
  have HB3 : Hid (Below w2.heap.size w2 w3 ∧ w3.heap[w.heap.size + 1]? = some (.cells zero6 25 (0, 0))) := ⟨hb3, (hb3.block _ (lt_of_row rz2)).trans rz2⟩
  clear k1 hb3 rz2 hw2 c0 c1
  go_wp2_with (refine wpList_put rfl 25 (.tmp 2) (.tmp 35) rfl rfl rfl rfl HB3.out.2 H6.out.1 (info25.trans (congrArg some H6.out.1.symm)) H6.out.2 ?_)
  exact bodyPost_ret (results_row_tmp Tryz.results176 _ _ (w.heap.size + 1) 25 _ (0, 0) _ rfl (put_row V HB3.out.2 H6.out.1) Tryz.underlying25 rfl (info25.trans (congrArg some H6.out.1.symm))) rfl ⟨rfl, put_below (HB.out.trans (HB3.out.1.mono HB.out.size)) _ (Nat.le_succ _) _⟩
set_option maxRecDepth 100000 in
set_option maxHeartbeats 4000000 in
theorem literalOf_keyno (x : Wd) (hk : (x.k : Int) = 2) (h : keyV x.s = none) (w : World) : Calls Tryz.prog 176 #[wdV x] w fun r w' => r = .returned (optV (none)) ∧ Below w.heap.size w w' := by
  have hd : (wdS x).data.toList = x.s := rfl
  have k0 : ∀ W, Calls Tryz.prog 182 #[.string (wdS x)] W fun r w' => r = .returned (optV (keyV (wdS x).data.toList)) ∧ Below W.heap.size W w' := fun W => keyValue_any _ W
  rw [hd, h] at k0
  clear h hd
  unfold optV at k0 ⊢
  dsimp only at k0 ⊢
  unfold wdV
  obtain ⟨t, ht⟩ : ∃ t, wdS x = t := ⟨_, rfl⟩
  obtain ⟨xa, hxa⟩ : ∃ xa, (x.a : Int) = xa := ⟨_, rfl⟩
  rw [hk, ht, hxa]
  obtain ⟨w2, hw2⟩ : ∃ w2, (w.alloc (.cells #[.int .i64 2, .string t, .int .i64 xa] 97)).alloc (.cells #[.int .i64 0, .bool false, .int .i64 0, .string ⟨#[]⟩, .slice none 0 0, .slice none 0 0] 25) = w2 := ⟨_, rfl⟩
  have hb2 : Below w.heap.size w w2 := by rw [← hw2]; exact ((Below.refl _ w).alloc (Nat.le_refl _) _).alloc (by simp) _
  have hs2 : w2.heap.size = w.heap.size + 1 + 1 := by rw [← hw2]; simp
  have rx2 : w2.heap[w.heap.size]? = some (.cells #[.int .i64 2, .string t, .int .i64 xa] 97 (0, 0)) := by rw [← hw2, Below.heap_alloc _ _ _ (by simp)]; exact heap_alloc_new _ _
  have rz2 : w2.heap[w.heap.size + 1]? = some (.cells zero6 25 (0, 0)) := by rw [← hw2]; exact two_new _ _ _
  have c0 := cell_of_row w2 _ 0 _ _ _ rx2
  have c1 := cell_of_row w2 _ 1 _ _ _ rx2
  rw [ht] at k0
  have k1 := k0
  clear k0
  obtain ⟨V, hV⟩ : ∃ V, arr6 0 false 0 ⟨#[]⟩ = V := ⟨_, rfl⟩
  have h6 : V.size = 6 := by rw [← hV]; rfl
  have h1 : V.all (·.oneCell') = true := by rw [← hV]; exact arr6_one _ _ _ _
  rw [hV] at k1 ⊢
  have H6 : Hid (V.size = 6 ∧ V.all (·.oneCell') = true) := ⟨h6, h1⟩
  clear hV h6 h1
  have HB : Hid (Below w.heap.size w w2) := hb2
  clear hb2 rx2 hk ht hxa
  go_enter Tryz.func176, Tryz.ntmps176
  go_wp2_with fail
  refine (k1 _).mono ?_
  rintro q w3 ⟨rfl, hb3⟩
  have HB3 : Hid (Below w2.heap.size w2 w3 ∧ w3.heap[w.heap.size + 1]? = some (.cells zero6 25 (0, 0))) := ⟨hb3, (hb3.block _ (lt_of_row rz2)).trans rz2⟩
  clear k1 hb3 rz2 hw2 c0 c1
  go_wp2_with (refine wpList_put rfl 25 (.tmp 2) (.tmp 35) rfl rfl rfl rfl HB3.out.2 H6.out.1 (info25.trans (congrArg some H6.out.1.symm)) H6.out.2 ?_)
  exact bodyPost_ret (results_row_tmp Tryz.results176 _ _ (w.heap.size + 1) 25 _ (0, 0) _ rfl (put_row V HB3.out.2 H6.out.1) Tryz.underlying25 rfl (info25.trans (congrArg some H6.out.1.symm))) rfl ⟨rfl, put_below (HB.out.trans (HB3.out.1.mono HB.out.size)) _ (Nat.le_succ _) _⟩
set_option maxRecDepth 100000 in
set_option maxHeartbeats 4000000 in
theorem literalOf_none (x : Wd) (h2 : ¬ (x.k : Int) = 2) (h3 : ¬ (x.k : Int) = 3) (h4 : ¬ (x.k : Int) = 4) (h5 : ¬ (x.k : Int) = 5) (w : World) : Calls Tryz.prog 176 #[wdV x] w fun r w' => r = .returned (.tuple #[.agg (arr6 0 false 0 ⟨#[]⟩), .bool false]) ∧ Below w.heap.size w w' := by
  unfold wdV
  obtain ⟨t, ht⟩ : ∃ t, wdS x = t := ⟨_, rfl⟩
  obtain ⟨xa, hxa⟩ : ∃ xa, (x.a : Int) = xa := ⟨_, rfl⟩
  obtain ⟨xk, hxk⟩ : ∃ xk, (x.k : Int) = xk := ⟨_, rfl⟩
  rw [hxk] at h2 h3 h4 h5
  rw [ht, hxa, hxk]
  obtain ⟨w2, hw2⟩ : ∃ w2, (w.alloc (.cells #[.int .i64 xk, .string t, .int .i64 xa] 97)).alloc (.cells #[.int .i64 0, .bool false, .int .i64 0, .string ⟨#[]⟩, .slice none 0 0, .slice none 0 0] 25) = w2 := ⟨_, rfl⟩
  have hb2 : Below w.heap.size w w2 := by rw [← hw2]; exact ((Below.refl _ w).alloc (Nat.le_refl _) _).alloc (by simp) _
  have hs2 : w2.heap.size = w.heap.size + 1 + 1 := by rw [← hw2]; simp
  have rx2 : w2.heap[w.heap.size]? = some (.cells #[.int .i64 xk, .string t, .int .i64 xa] 97 (0, 0)) := by rw [← hw2, Below.heap_alloc _ _ _ (by simp)]; exact heap_alloc_new _ _
  have rz2 : w2.heap[w.heap.size + 1]? = some (.cells zero6 25 (0, 0)) := by rw [← hw2]; exact two_new _ _ _
  have c0 := cell_of_row w2 _ 0 _ _ _ rx2
  have c1 := cell_of_row w2 _ 1 _ _ _ rx2
  have HB : Hid (Below w.heap.size w w2 ∧ w2.heap[w.heap.size + 1]? = some (.cells zero6 25 (0, 0))) := ⟨hb2, rz2⟩
  clear hb2 rz2 rx2 hxk ht hxa
  go_enter Tryz.func176, Tryz.ntmps176
  go_wp2_with (refine wpList_put rfl 25 (.tmp 2) (.tmp 37) rfl rfl rfl rfl HB.out.2 rfl info25 (by simp [Value.oneCell']) ?_)
  exact bodyPost_ret (results_row_tmp Tryz.results176 _ _ (w.heap.size + 1) 25 _ (0, 0) _ rfl (put_row _ HB.out.2 rfl) Tryz.underlying25 rfl info25) rfl ⟨rfl, put_below HB.out.1 _ (Nat.le_succ _) _⟩
end Go.Proofs.YtnnclhmhbmbkfaaGreatDoor
