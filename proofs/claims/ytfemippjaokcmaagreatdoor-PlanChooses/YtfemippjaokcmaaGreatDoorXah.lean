/- bound of the ranks of NOT, of a comparison, of the strongest: each calls its own function. Values of literals (None, Bool, Int, Str, Bytes). A block that is written over whole (put), and read whole. Values that words of the language say (keyValue), and literals' values (literalOf). Literals' values (literalOf), and literals (literal). Numbers that words say (literalOf). Literals (literal). -/
import Derived.Test.YtfemippjaokcmaaGreatDoorXag
import Derived.Deep.MidRow
namespace Go.Proofs.YtfemippjaokcmaaGreatDoor
open Go.RowKit Go.Shelf
attribute [local go_sem] Oper.semAt_some fw0 fw1 fw2
set_option maxRecDepth 100000 in
set_option maxHeartbeats 8000000 in
theorem bound_not {w : World} {b : Nat} {p : Option Addr} {c : Nat} {ws : List Wd} {s : PS} (H : Ps w b p c ws s) (X : Et × PS)
    (kb : ∀ W, Ps W b p c ws s → Calls Tryz.prog 162 #[.pointer (some ⟨b, 0, none⟩)] W (Gives ws (fun k => W.heap.size ≤ k) W b p c X)) :
    Calls Tryz.prog 145 #[.pointer (some ⟨b, 0, none⟩), .int .i64 2] w (Gives ws (fun k => w.heap.size ≤ k) w b p c X) := by
  have hold := H.old
  have lb := lt_of_row H.row
  obtain ⟨w1, hw1⟩ : ∃ w1, w.alloc (.cells #[.int .i64 0, .string ⟨#[]⟩, .int .i64 0, .bool false, .int .i64 0, .string ⟨#[]⟩, .slice none 0 0, .slice none 0 0, .slice none 0 0, .slice none 0 0] 28) = w1 := ⟨_, rfl⟩
  have hb1 : Below w.heap.size w w1 := by rw [← hw1]; exact (Below.refl _ w).alloc (Nat.le_refl _) _
  have hs1 : w1.heap.size = w.heap.size + 1 := by rw [← hw1]; simp
  have rz1 : w1.heap[w.heap.size]? = some (.cells #[.int .i64 0, .string ⟨#[]⟩, .int .i64 0, .bool false, .int .i64 0, .string ⟨#[]⟩, .slice none 0 0, .slice none 0 0, .slice none 0 0, .slice none 0 0] 28 (0, 0)) := by rw [← hw1]; exact heap_alloc_new _ _
  have k1 := kb w1 (H.later hb1)
  have HB : Hid (Below w.heap.size w w1) := hb1
  clear H hb1 kb
  go_enter Tryz.func145, Tryz.ntmps145
  go_wp2_with fail
  refine k1.mono ?_
  rintro q w6 ⟨d6, v6, rfl, hL6, hP6, hO6⟩
  have s6 := hO6.size
  have rz6 := (hO6.block _ (by omega) (by omega)).trans rz1
  obtain ⟨R6, rfl⟩ := hL6.row
  have q0 := cell_of_row w6 _ 0 _ _ _ rz6
  have g0 := frozen_of_row w6 _ 0 _ _ rz6
  have q1 := cell_of_row w6 _ 1 _ _ _ rz6
  have g1 := frozen_of_row w6 _ 1 _ _ rz6
  have q2 := cell_of_row w6 _ 2 _ _ _ rz6
  have g2 := frozen_of_row w6 _ 2 _ _ rz6
  have q3 := cell_of_row w6 _ 3 _ _ _ rz6
  have g3 := frozen_of_row w6 _ 3 _ _ rz6
  have q4 := cell_of_row w6 _ 4 _ _ _ rz6
  have g4 := frozen_of_row w6 _ 4 _ _ rz6
  have q5 := cell_of_row w6 _ 5 _ _ _ rz6
  have g5 := frozen_of_row w6 _ 5 _ _ rz6
  have q6 := cell_of_row w6 _ 6 _ _ _ rz6
  have g6 := frozen_of_row w6 _ 6 _ _ rz6
  have q7 := cell_of_row w6 _ 7 _ _ _ rz6
  have g7 := frozen_of_row w6 _ 7 _ _ rz6
  have q8 := cell_of_row w6 _ 8 _ _ _ rz6
  have g8 := frozen_of_row w6 _ 8 _ _ rz6
  have q9 := cell_of_row w6 _ 9 _ _ _ rz6
  have g9 := frozen_of_row w6 _ 9 _ _ rz6
  have H6 : Hid (LiesE w6 (fun k => w1.heap.size ≤ k) d6 X.1 (rowX R6) ∧ Ps w6 b p c ws X.2 ∧ Onl b w1 w6 ∧ w6.heap[w.heap.size]? = some (.cells #[.int .i64 0, .string ⟨#[]⟩, .int .i64 0, .bool false, .int .i64 0, .string ⟨#[]⟩, .slice none 0 0, .slice none 0 0, .slice none 0 0, .slice none 0 0] 28 (0, 0))) := ⟨hL6, hP6, hO6, rz6⟩
  clear k1 hL6 hP6 hO6 rz6 rz1 hw1
  unfold rowX
  go_wp2
  obtain ⟨hL6, hP6, hO6, rz6⟩ := H6.out
  refine bodyPost_ret (results_cell_row Tryz.results145 _ _ w.heap.size 28 _ (0, 0) _ rfl (setR_row rz6 rfl R6) Tryz.underlying28 rfl (by kernel_rfl)) rfl ⟨d6, rowX R6, rfl, ?_, ?_, ?_⟩
  · exact (hL6.since (Since.set10 (by omega) w6 _ _ _ _ _ _ _ _ _ _)).imp fun k hk _ => by omega
  · exact hP6.kept (z := w.heap.size) lb hold (fun j hj => set10_other hj _ _ _ _ _ _ _ _ _ _) (Nat.le_of_eq (set10_size _ _ _ _ _ _ _ _ _ _ _ _).symm)
  · exact ((Onl.of HB.out).trans hO6).set10 _ (Nat.le_refl _) _ _ _ _ _ _ _ _ _ _
set_option maxRecDepth 100000 in
set_option maxHeartbeats 8000000 in
theorem bound_cmp {w : World} {b : Nat} {p : Option Addr} {c : Nat} {ws : List Wd} {s : PS} (H : Ps w b p c ws s) (X : Et × PS)
    (kb : ∀ W, Ps W b p c ws s → Calls Tryz.prog 163 #[.pointer (some ⟨b, 0, none⟩)] W (Gives ws (fun k => W.heap.size ≤ k) W b p c X)) :
    Calls Tryz.prog 145 #[.pointer (some ⟨b, 0, none⟩), .int .i64 3] w (Gives ws (fun k => w.heap.size ≤ k) w b p c X) := by
  have hold := H.old
  have lb := lt_of_row H.row
  obtain ⟨w1, hw1⟩ : ∃ w1, w.alloc (.cells #[.int .i64 0, .string ⟨#[]⟩, .int .i64 0, .bool false, .int .i64 0, .string ⟨#[]⟩, .slice none 0 0, .slice none 0 0, .slice none 0 0, .slice none 0 0] 28) = w1 := ⟨_, rfl⟩
  have hb1 : Below w.heap.size w w1 := by rw [← hw1]; exact (Below.refl _ w).alloc (Nat.le_refl _) _
  have hs1 : w1.heap.size = w.heap.size + 1 := by rw [← hw1]; simp
  have rz1 : w1.heap[w.heap.size]? = some (.cells #[.int .i64 0, .string ⟨#[]⟩, .int .i64 0, .bool false, .int .i64 0, .string ⟨#[]⟩, .slice none 0 0, .slice none 0 0, .slice none 0 0, .slice none 0 0] 28 (0, 0)) := by rw [← hw1]; exact heap_alloc_new _ _
  have k1 := kb w1 (H.later hb1)
  have HB : Hid (Below w.heap.size w w1) := hb1
  clear H hb1 kb
  go_enter Tryz.func145, Tryz.ntmps145
  go_wp2_with fail
  refine k1.mono ?_
  rintro q w6 ⟨d6, v6, rfl, hL6, hP6, hO6⟩
  have s6 := hO6.size
  have rz6 := (hO6.block _ (by omega) (by omega)).trans rz1
  obtain ⟨R6, rfl⟩ := hL6.row
  have q0 := cell_of_row w6 _ 0 _ _ _ rz6
  have g0 := frozen_of_row w6 _ 0 _ _ rz6
  have q1 := cell_of_row w6 _ 1 _ _ _ rz6
  have g1 := frozen_of_row w6 _ 1 _ _ rz6
  have q2 := cell_of_row w6 _ 2 _ _ _ rz6
  have g2 := frozen_of_row w6 _ 2 _ _ rz6
  have q3 := cell_of_row w6 _ 3 _ _ _ rz6
  have g3 := frozen_of_row w6 _ 3 _ _ rz6
  have q4 := cell_of_row w6 _ 4 _ _ _ rz6
  have g4 := frozen_of_row w6 _ 4 _ _ rz6
  have q5 := cell_of_row w6 _ 5 _ _ _ rz6
  have g5 := frozen_of_row w6 _ 5 _ _ rz6
  have q6 := cell_of_row w6 _ 6 _ _ _ rz6
  have g6 := frozen_of_row w6 _ 6 _ _ rz6
  have q7 := cell_of_row w6 _ 7 _ _ _ rz6
  have g7 := frozen_of_row w6 _ 7 _ _ rz6
  have q8 := cell_of_row w6 _ 8 _ _ _ rz6
  have g8 := frozen_of_row w6 _ 8 _ _ rz6
  have q9 := cell_of_row w6 _ 9 _ _ _ rz6
  have g9 := frozen_of_row w6 _ 9 _ _ rz6
  have H6 : Hid (LiesE w6 (fun k => w1.heap.size ≤ k) d6 X.1 (rowX R6) ∧ Ps w6 b p c ws X.2 ∧ Onl b w1 w6 ∧ w6.heap[w.heap.size]? = some (.cells #[.int .i64 0, .string ⟨#[]⟩, .int .i64 0, .bool false, .int .i64 0, .string ⟨#[]⟩, .slice none 0 0, .slice none 0 0, .slice none 0 0, .slice none 0 0] 28 (0, 0))) := ⟨hL6, hP6, hO6, rz6⟩
  clear k1 hL6 hP6 hO6 rz6 rz1 hw1
  unfold rowX
  go_wp2
  obtain ⟨hL6, hP6, hO6, rz6⟩ := H6.out
  refine bodyPost_ret (results_cell_row Tryz.results145 _ _ w.heap.size 28 _ (0, 0) _ rfl (setR_row rz6 rfl R6) Tryz.underlying28 rfl (by kernel_rfl)) rfl ⟨d6, rowX R6, rfl, ?_, ?_, ?_⟩
  · exact (hL6.since (Since.set10 (by omega) w6 _ _ _ _ _ _ _ _ _ _)).imp fun k hk _ => by omega
  · exact hP6.kept (z := w.heap.size) lb hold (fun j hj => set10_other hj _ _ _ _ _ _ _ _ _ _) (Nat.le_of_eq (set10_size _ _ _ _ _ _ _ _ _ _ _ _).symm)
  · exact ((Onl.of HB.out).trans hO6).set10 _ (Nat.le_refl _) _ _ _ _ _ _ _ _ _ _
set_option maxRecDepth 100000 in
set_option maxHeartbeats 8000000 in
theorem bound_top {w : World} {b : Nat} {p : Option Addr} {c : Nat} {ws : List Wd} {s : PS} (H : Ps w b p c ws s) (X : Et × PS)
    (kb : ∀ W, Ps W b p c ws s → Calls Tryz.prog 164 #[.pointer (some ⟨b, 0, none⟩)] W (Gives ws (fun k => W.heap.size ≤ k) W b p c X)) :
    Calls Tryz.prog 145 #[.pointer (some ⟨b, 0, none⟩), .int .i64 6] w (Gives ws (fun k => w.heap.size ≤ k) w b p c X) := by
  have hold := H.old
  have lb := lt_of_row H.row
  obtain ⟨w1, hw1⟩ : ∃ w1, w.alloc (.cells #[.int .i64 0, .string ⟨#[]⟩, .int .i64 0, .bool false, .int .i64 0, .string ⟨#[]⟩, .slice none 0 0, .slice none 0 0, .slice none 0 0, .slice none 0 0] 28) = w1 := ⟨_, rfl⟩
  have hb1 : Below w.heap.size w w1 := by rw [← hw1]; exact (Below.refl _ w).alloc (Nat.le_refl _) _
  have hs1 : w1.heap.size = w.heap.size + 1 := by rw [← hw1]; simp
  have rz1 : w1.heap[w.heap.size]? = some (.cells #[.int .i64 0, .string ⟨#[]⟩, .int .i64 0, .bool false, .int .i64 0, .string ⟨#[]⟩, .slice none 0 0, .slice none 0 0, .slice none 0 0, .slice none 0 0] 28 (0, 0)) := by rw [← hw1]; exact heap_alloc_new _ _
  have k1 := kb w1 (H.later hb1)
  have HB : Hid (Below w.heap.size w w1) := hb1
  clear H hb1 kb
  go_enter Tryz.func145, Tryz.ntmps145
  go_wp2_with fail
  refine k1.mono ?_
  rintro q w6 ⟨d6, v6, rfl, hL6, hP6, hO6⟩
  have s6 := hO6.size
  have rz6 := (hO6.block _ (by omega) (by omega)).trans rz1
  obtain ⟨R6, rfl⟩ := hL6.row
  have q0 := cell_of_row w6 _ 0 _ _ _ rz6
  have g0 := frozen_of_row w6 _ 0 _ _ rz6
  have q1 := cell_of_row w6 _ 1 _ _ _ rz6
  have g1 := frozen_of_row w6 _ 1 _ _ rz6
  have q2 := cell_of_row w6 _ 2 _ _ _ rz6
  have g2 := frozen_of_row w6 _ 2 _ _ rz6
  have q3 := cell_of_row w6 _ 3 _ _ _ rz6
  have g3 := frozen_of_row w6 _ 3 _ _ rz6
  have q4 := cell_of_row w6 _ 4 _ _ _ rz6
  have g4 := frozen_of_row w6 _ 4 _ _ rz6
  have q5 := cell_of_row w6 _ 5 _ _ _ rz6
  have g5 := frozen_of_row w6 _ 5 _ _ rz6
  have q6 := cell_of_row w6 _ 6 _ _ _ rz6
  have g6 := frozen_of_row w6 _ 6 _ _ rz6
  have q7 := cell_of_row w6 _ 7 _ _ _ rz6
  have g7 := frozen_of_row w6 _ 7 _ _ rz6
  have q8 := cell_of_row w6 _ 8 _ _ _ rz6
  have g8 := frozen_of_row w6 _ 8 _ _ rz6
  have q9 := cell_of_row w6 _ 9 _ _ _ rz6
  have g9 := frozen_of_row w6 _ 9 _ _ rz6
  have H6 : Hid (LiesE w6 (fun k => w1.heap.size ≤ k) d6 X.1 (rowX R6) ∧ Ps w6 b p c ws X.2 ∧ Onl b w1 w6 ∧ w6.heap[w.heap.size]? = some (.cells #[.int .i64 0, .string ⟨#[]⟩, .int .i64 0, .bool false, .int .i64 0, .string ⟨#[]⟩, .slice none 0 0, .slice none 0 0, .slice none 0 0, .slice none 0 0] 28 (0, 0))) := ⟨hL6, hP6, hO6, rz6⟩
  clear k1 hL6 hP6 hO6 rz6 rz1 hw1
  unfold rowX
  go_wp2
  obtain ⟨hL6, hP6, hO6, rz6⟩ := H6.out
  refine bodyPost_ret (results_cell_row Tryz.results145 _ _ w.heap.size 28 _ (0, 0) _ rfl (setR_row rz6 rfl R6) Tryz.underlying28 rfl (by kernel_rfl)) rfl ⟨d6, rowX R6, rfl, ?_, ?_, ?_⟩
  · exact (hL6.since (Since.set10 (by omega) w6 _ _ _ _ _ _ _ _ _ _)).imp fun k hk _ => by omega
  · exact hP6.kept (z := w.heap.size) lb hold (fun j hj => set10_other hj _ _ _ _ _ _ _ _ _ _) (Nat.le_of_eq (set10_size _ _ _ _ _ _ _ _ _ _ _ _).symm)
  · exact ((Onl.of HB.out).trans hO6).set10 _ (Nat.le_refl _) _ _ _ _ _ _ _ _ _ _
end Go.Proofs.YtfemippjaokcmaaGreatDoor
namespace Go.Proofs.YtfemippjaokcmaaGreatDoor
open Go.RowKit Go.Shelf
attribute [local go_sem] Oper.semAt_some fw0 fw1 fw2
def vlV (k : Int) (b : Bool) (n : Int) (s : ByteArray) : Value := .agg #[.int .i64 k, .bool b, .int .i64 n, .string s, .slice none 0 0, .slice none 0 0]
set_option maxRecDepth 100000 in
set_option maxHeartbeats 4000000 in
theorem vint_any (n : Int) (w : World) : Calls Tryz.prog 24 #[.int .i64 n] w fun r w' => r = .returned (vlV 2 false n ⟨#[]⟩) ∧ Below w.heap.size w w' := by
  unfold vlV
  go_enter Tryz.func24, Tryz.ntmps24
  go_wp2
  exact bodyPost_ret (results_cell_row Tryz.results24 _ _ w.heap.size 25 _ (0, 0) _ rfl (heap_alloc_new _ _) Tryz.underlying25 rfl (by kernel_rfl)) rfl ⟨rfl, (Below.refl _ w).alloc (Nat.le_refl _) _⟩
set_option maxRecDepth 100000 in
set_option maxHeartbeats 4000000 in
theorem vstr_any (s : ByteArray) (w : World) : Calls Tryz.prog 203 #[.string s] w fun r w' => r = .returned (vlV 3 false 0 s) ∧ Below w.heap.size w w' := by
  unfold vlV
  go_enter Tryz.func203, Tryz.ntmps203
  go_wp2
  exact bodyPost_ret (results_cell_row Tryz.results203 _ _ w.heap.size 25 _ (0, 0) _ rfl (heap_alloc_new _ _) Tryz.underlying25 rfl (by kernel_rfl)) rfl ⟨rfl, (Below.refl _ w).alloc (Nat.le_refl _) _⟩
set_option maxRecDepth 100000 in
set_option maxHeartbeats 4000000 in
theorem vbytes_any (s : ByteArray) (w : World) : Calls Tryz.prog 204 #[.string s] w fun r w' => r = .returned (vlV 4 false 0 s) ∧ Below w.heap.size w w' := by
  unfold vlV
  go_enter Tryz.func204, Tryz.ntmps204
  go_wp2
  exact bodyPost_ret (results_cell_row Tryz.results204 _ _ w.heap.size 25 _ (0, 0) _ rfl (heap_alloc_new _ _) Tryz.underlying25 rfl (by kernel_rfl)) rfl ⟨rfl, (Below.refl _ w).alloc (Nat.le_refl _) _⟩
set_option maxRecDepth 100000 in
set_option maxHeartbeats 4000000 in
theorem vnone_any (w : World) : Calls Tryz.prog 41 #[] w fun r w' => r = .returned (vlV 0 false 0 ⟨#[]⟩) ∧ Below w.heap.size w w' := by
  unfold vlV
  go_enter Tryz.func41, Tryz.ntmps41
  go_wp2
  exact bodyPost_ret (results_cell_row Tryz.results41 _ _ w.heap.size 25 _ (0, 0) _ rfl (heap_alloc_new _ _) Tryz.underlying25 rfl (by kernel_rfl)) rfl ⟨rfl, (Below.refl _ w).alloc (Nat.le_refl _) _⟩
set_option maxRecDepth 100000 in
set_option maxHeartbeats 4000000 in
theorem vbool_any (b : Bool) (w : World) : Calls Tryz.prog 207 #[.bool b] w fun r w' => r = .returned (vlV 1 b 0 ⟨#[]⟩) ∧ Below w.heap.size w w' := by
  unfold vlV
  go_enter Tryz.func207, Tryz.ntmps207
  go_wp2
  exact bodyPost_ret (results_cell_row Tryz.results207 _ _ w.heap.size 25 _ (0, 0) _ rfl (heap_alloc_new _ _) Tryz.underlying25 rfl (by kernel_rfl)) rfl ⟨rfl, (Below.refl _ w).alloc (Nat.le_refl _) _⟩
end Go.Proofs.YtfemippjaokcmaaGreatDoor
namespace Go.Proofs.YtfemippjaokcmaaGreatDoor
open Go.RowKit Go.Shelf
theorem there_of_row {w : World} {z : Nat} {cs : Array Value} {t : TypeId} (h : w.heap[z]? = some (.cells cs t (0, 0))) {n : Nat} (hn : n ≤ cs.size) : w.there z 0 n := by
  intro j hj
  have e : (0 : Nat) + j = j := Nat.zero_add j
  rw [e]
  refine ⟨?_, frozen_of_row w _ j _ _ h⟩
  rw [cell_of_row w z j cs t _ h]
  simp
  omega
def put (w : World) (z : Nat) (vs : Array Value) : World := w.setCells z 0 vs.toList
theorem take_set_at : ∀ (l : List Value) (o : Nat) (v : Value), o < l.length → (l.set o v).take (o + 1) = l.take o ++ [v]
  | [], _, _, h => by simp at h
  | _ :: _, 0, _, _ => by simp
  | x :: l, o + 1, v, h => by
    have := take_set_at l o v (by simpa using h)
    simp [this]
theorem heap_setCells_full (g : Nat) (t : TypeId) : ∀ (vs : List Value) (o : Nat) (W : World) (cs : Array Value), W.heap[g]? = some (.cells cs t (0, 0)) → o + vs.length = cs.size →
    (W.setCells g o vs).heap[g]? = some (.cells (cs.toList.take o ++ vs).toArray t (0, 0))
  | [], o, W, cs, h, hl => by
    simp only [World.setCells, List.append_nil]
    rw [h, List.take_of_length_le (by simp at hl; simp; omega)]
  | v :: r, o, W, cs, h, hl => by
    simp only [World.setCells]
    simp at hl
    rw [heap_setCells_full g t r (o + 1) _ (cs.setIfInBounds o v) (heap_setCell_same W g o cs t v h) (by simp; omega)]
    congr 3
    have : (cs.setIfInBounds o v).toList.take (o + 1) = cs.toList.take o ++ [v] := by
      rw [Array.toList_setIfInBounds, take_set_at cs.toList o v (by simp; omega)]
    rw [this]; simp
theorem put_row {W : World} {g : Nat} {t : TypeId} {cs : Array Value} (vs : Array Value) (h : W.heap[g]? = some (.cells cs t (0, 0))) (hl : vs.size = cs.size) :
    (put W g vs).heap[g]? = some (.cells vs t (0, 0)) := by
  unfold put
  rw [heap_setCells_full g t vs.toList 0 W cs h (by simp; omega)]
  simp
theorem below_setCells' {B g : Nat} {a : World} (hg : B ≤ g) : ∀ (vs : List Value) (o : Nat) (W : World), Below B a W → Below B a (W.setCells g o vs)
  | [], _, _, h => h
  | v :: r, o, _, h => below_setCells' hg r (o + 1) _ (h.setCell hg v)
theorem heap_setCells_else (g i : Nat) (hne : i ≠ g) : ∀ (vs : List Value) (o : Nat) (W : World), (W.setCells g o vs).heap[i]? = W.heap[i]?
  | [], _, _ => rfl
  | v :: r, o, W => by
    simp only [World.setCells]
    rw [heap_setCells_else g i hne r (o + 1) _, Below.heap_setCell _ _ _ i hne]
theorem size_setCells (g : Nat) : ∀ (vs : List Value) (o : Nat) (W : World), (W.setCells g o vs).heap.size = W.heap.size
  | [], _, _ => rfl
  | v :: r, o, W => by
    simp only [World.setCells]
    rw [size_setCells g r (o + 1) _]
    simp [World.setCell]
theorem put_other {w : World} {z j : Nat} (hj : j ≠ z) (vs : Array Value) : (put w z vs).heap[j]? = w.heap[j]? := heap_setCells_else z j hj _ _ _
theorem put_size (w : World) (z : Nat) (vs : Array Value) : (put w z vs).heap.size = w.heap.size := size_setCells z _ _ _
theorem put_below {B : Nat} {a w : World} (hb : Below B a w) (z : Nat) (hz : B ≤ z) (vs : Array Value) : Below B a (put w z vs) := below_setCells' hz _ _ _ hb
theorem Onl.put {b : Nat} {a w : World} (h : Onl b a w) (z : Nat) (hz : a.heap.size ≤ z) (vs : Array Value) : Onl b a (put w z vs) := by
  have hb0 := put_below (Below.refl 0 w) z (Nat.zero_le _) vs
  refine ⟨hb0.os.trans h.os, hb0.tape.trans h.tape, hb0.output.trans h.output, ?_, fun j hj hb => ?_⟩
  · rw [put_size]; exact h.size
  · rw [put_other (by omega)]; exact h.block j hj hb
theorem Since.put {S : Nat → Prop} {z : Nat} (hz : ¬ S z) (w : World) (vs : Array Value) : Since S w (put w z vs) :=
  ⟨Nat.le_of_eq (put_size _ _ _).symm, fun k hk _ => put_other (fun (e : k = z) => hz (e ▸ hk)) _⟩
theorem Ps.put {w : World} {b : Nat} {p : Option Addr} {c : Nat} {ws : List Wd} {s : PS} (H : Ps w b p c ws s) {z : Nat} (hbz : b < z) (hgz : ∀ g, p = some ⟨g, 0, none⟩ → g < z) (vs : Array Value) : Ps (put w z vs) b p c ws s :=
  H.kept (z := z) hbz hgz (fun _ hj => put_other hj vs) (Nat.le_of_eq (put_size _ _ _).symm)
/- At the list of a region's operations. -/
theorem wpList_put {ops : Array Oper} {rest : List Oper} {op : Oper} {a : Act} {w : World} {Q : Exit → Act → World → Prop} (hgd : op.guard = none) (ty : TypeId) (x y : Operand) (ho : op.op = .store ty x y) (hds : op.dst = none)
    {z : Nat} {cs vs : Array Value} {t : TypeId} (hx : a.eval x = .pointer (some ⟨z, 0, none⟩)) (hy : a.eval y = .agg vs) (h0 : w.heap[z]? = some (.cells cs t (0, 0))) (hn : vs.size = cs.size) (hi : (Tryz.prog.info? ty).map (·.size) = some vs.size) (h1 : vs.all (·.oneCell') = true)
    (h : wpList Tryz.prog ops Q rest a (put w z vs)) : wpList Tryz.prog ops Q (op :: rest) a w := by
  refine wpList_store_mid hgd ty x y ho z 0 vs hx hy (there_of_row h0 (by omega)) hi h1 ?_
  rw [hds]
  exact h
theorem wpList_get {ops : Array Oper} {rest : List Oper} {op : Oper} {a : Act} {w : World} {Q : Exit → Act → World → Prop} (hgd : op.guard = none) (ty : TypeId) (x : Operand) (ho : op.op = .load ty x)
    {z : Nat} {cs : Array Value} {t : TypeId} (hx : a.eval x = .pointer (some ⟨z, 0, none⟩)) (h0 : w.heap[z]? = some (.cells cs t (0, 0))) {d : TypeDesc} (hu : Tryz.prog.underlying ty = some d) (hd : d.isRow = true) (hi : (Tryz.prog.info? ty).map (·.size) = some cs.size)
    (h : wpList Tryz.prog ops Q rest (a.put op.dst (.agg cs)) w) : wpList Tryz.prog ops Q (op :: rest) a w := by
  refine wpList_load_mid hgd ty x ho z 0 hx cs.toList d (fun j v hv => by rw [Nat.zero_add, cell_of_row w z j cs t _ h0]; simpa using hv) hu hd (by simpa using hi) ?_
  simpa using h
theorem info25 : (Tryz.prog.info? 25).map (·.size) = some 6 := by kernel_rfl
theorem info28 : (Tryz.prog.info? 28).map (·.size) = some 10 := by kernel_rfl
theorem info98 : (Tryz.prog.info? 158).map (·.size) = some 11 := by kernel_rfl
theorem info30 : (Tryz.prog.info? 62).map (·.size) = some 31 := by kernel_rfl
end Go.Proofs.YtfemippjaokcmaaGreatDoor
namespace Go.Proofs.YtfemippjaokcmaaGreatDoor
open Go.RowKit Go.Shelf
attribute [local go_sem] Oper.semAt_some fw0 fw1 fw2
def zero6 : Array Value := #[.int .i64 0, .bool false, .int .i64 0, .string ⟨#[]⟩, .slice none 0 0, .slice none 0 0]
def arr6 (k : Int) (b : Bool) (n : Int) (s : ByteArray) : Array Value := #[.int .i64 k, .bool b, .int .i64 n, .string s, .slice none 0 0, .slice none 0 0]
theorem arr6_one (k : Int) (b : Bool) (n : Int) (s : ByteArray) : (arr6 k b n s).all (·.oneCell') = true := by simp [arr6, Value.oneCell']
def keyV (l : List UInt8) : Option (Nat × Bool × Int × ByteArray) :=
  if l = [78, 85, 76, 76] then some (0, false, 0, ⟨#[]⟩) else if l = [84, 82, 85, 69] then some (1, true, 0, ⟨#[]⟩) else if l = [70, 65, 76, 83, 69] then some (1, false, 0, ⟨#[]⟩) else none
def optV (v : Option (Nat × Bool × Int × ByteArray)) : Value :=
  match v with
  | some v => .tuple #[.agg (arr6 v.1 v.2.1 v.2.2.1 v.2.2.2), .bool true]
  | none => .tuple #[.agg (arr6 0 false 0 ⟨#[]⟩), .bool false]

set_option maxRecDepth 100000 in
set_option maxHeartbeats 4000000 in
theorem keyValue_null (w : World) : Calls Tryz.prog 205 #[.string ⟨#[78, 85, 76, 76]⟩] w fun r w' => r = .returned (.tuple #[.agg (arr6 0 false 0 ⟨#[]⟩), .bool true]) ∧ Below w.heap.size w w' := by
  obtain ⟨w1, hw1⟩ : ∃ w1, w.alloc (.cells #[.int .i64 0, .bool false, .int .i64 0, .string ⟨#[]⟩, .slice none 0 0, .slice none 0 0] 25) = w1 := ⟨_, rfl⟩
  have hb1 : Below w.heap.size w w1 := by rw [← hw1]; exact (Below.refl _ w).alloc (Nat.le_refl _) _
  have rz1 : w1.heap[w.heap.size]? = some (.cells zero6 25 (0, 0)) := by rw [← hw1]; exact heap_alloc_new _ _
  have k1 := vnone_any w1
  have k2 : Calls Tryz.prog 41 #[] w1 fun r w' => r = .returned (.agg (arr6 0 false 0 ⟨#[]⟩)) ∧ Below w1.heap.size w1 w' := k1
  obtain ⟨V, hV⟩ : ∃ V, arr6 0 false 0 ⟨#[]⟩ = V := ⟨_, rfl⟩
  have h6 : V.size = 6 := by rw [← hV]; rfl
  have h1 : V.all (·.oneCell') = true := by rw [← hV]; exact arr6_one _ _ _ _
  rw [hV] at k2 ⊢
  have H6 : Hid (V.size = 6 ∧ V.all (·.oneCell') = true) := ⟨h6, h1⟩
  have HB : Hid (Below w.heap.size w w1) := hb1
  clear hb1 k1 hV h6 h1
  go_enter Tryz.func205, Tryz.ntmps205
  go_wp2_with fail
  refine k2.mono ?_
  rintro q w2 ⟨rfl, hb2⟩
  have rz2 := (hb2.block _ (lt_of_row rz1)).trans rz1
  have HB2 : Hid (Below w1.heap.size w1 w2 ∧ w2.heap[w.heap.size]? = some (.cells zero6 25 (0, 0))) := ⟨hb2, rz2⟩
  clear k2 hb2 rz1 rz2 hw1
  go_wp2_with (refine wpList_put rfl 25 (.tmp 2) (.tmp 7) rfl rfl rfl rfl HB2.out.2 H6.out.1 (info25.trans (congrArg some H6.out.1.symm)) H6.out.2 ?_)
  exact bodyPost_ret (results_row_tmp Tryz.results205 _ _ w.heap.size 25 _ (0, 0) _ rfl (put_row V HB2.out.2 H6.out.1) Tryz.underlying25 rfl (info25.trans (congrArg some H6.out.1.symm))) rfl ⟨rfl, put_below (HB.out.trans (HB2.out.1.mono HB.out.size)) _ (Nat.le_refl _) _⟩
set_option maxRecDepth 100000 in
set_option maxHeartbeats 4000000 in
theorem keyValue_true (w : World) : Calls Tryz.prog 205 #[.string ⟨#[84, 82, 85, 69]⟩] w fun r w' => r = .returned (.tuple #[.agg (arr6 1 true 0 ⟨#[]⟩), .bool true]) ∧ Below w.heap.size w w' := by
  obtain ⟨w1, hw1⟩ : ∃ w1, w.alloc (.cells #[.int .i64 0, .bool false, .int .i64 0, .string ⟨#[]⟩, .slice none 0 0, .slice none 0 0] 25) = w1 := ⟨_, rfl⟩
  have hb1 : Below w.heap.size w w1 := by rw [← hw1]; exact (Below.refl _ w).alloc (Nat.le_refl _) _
  have rz1 : w1.heap[w.heap.size]? = some (.cells zero6 25 (0, 0)) := by rw [← hw1]; exact heap_alloc_new _ _
  have k1 := vbool_any true w1
  have k2 : Calls Tryz.prog 207 #[.bool true] w1 fun r w' => r = .returned (.agg (arr6 1 true 0 ⟨#[]⟩)) ∧ Below w1.heap.size w1 w' := k1
  obtain ⟨V, hV⟩ : ∃ V, arr6 1 true 0 ⟨#[]⟩ = V := ⟨_, rfl⟩
  have h6 : V.size = 6 := by rw [← hV]; rfl
  have h1 : V.all (·.oneCell') = true := by rw [← hV]; exact arr6_one _ _ _ _
  rw [hV] at k2 ⊢
  have H6 : Hid (V.size = 6 ∧ V.all (·.oneCell') = true) := ⟨h6, h1⟩
  have HB : Hid (Below w.heap.size w w1) := hb1
  clear hb1 k1 hV h6 h1
  go_enter Tryz.func205, Tryz.ntmps205
  go_wp2_with fail
  refine k2.mono ?_
  rintro q w2 ⟨rfl, hb2⟩
  have rz2 := (hb2.block _ (lt_of_row rz1)).trans rz1
  have HB2 : Hid (Below w1.heap.size w1 w2 ∧ w2.heap[w.heap.size]? = some (.cells zero6 25 (0, 0))) := ⟨hb2, rz2⟩
  clear k2 hb2 rz1 rz2 hw1
  go_wp2_with (refine wpList_put rfl 25 (.tmp 2) (.tmp 10) rfl rfl rfl rfl HB2.out.2 H6.out.1 (info25.trans (congrArg some H6.out.1.symm)) H6.out.2 ?_)
  exact bodyPost_ret (results_row_tmp Tryz.results205 _ _ w.heap.size 25 _ (0, 0) _ rfl (put_row V HB2.out.2 H6.out.1) Tryz.underlying25 rfl (info25.trans (congrArg some H6.out.1.symm))) rfl ⟨rfl, put_below (HB.out.trans (HB2.out.1.mono HB.out.size)) _ (Nat.le_refl _) _⟩
set_option maxRecDepth 100000 in
set_option maxHeartbeats 4000000 in
theorem keyValue_false (w : World) : Calls Tryz.prog 205 #[.string ⟨#[70, 65, 76, 83, 69]⟩] w fun r w' => r = .returned (.tuple #[.agg (arr6 1 false 0 ⟨#[]⟩), .bool true]) ∧ Below w.heap.size w w' := by
  obtain ⟨w1, hw1⟩ : ∃ w1, w.alloc (.cells #[.int .i64 0, .bool false, .int .i64 0, .string ⟨#[]⟩, .slice none 0 0, .slice none 0 0] 25) = w1 := ⟨_, rfl⟩
  have hb1 : Below w.heap.size w w1 := by rw [← hw1]; exact (Below.refl _ w).alloc (Nat.le_refl _) _
  have rz1 : w1.heap[w.heap.size]? = some (.cells zero6 25 (0, 0)) := by rw [← hw1]; exact heap_alloc_new _ _
  have k1 := vbool_any false w1
  have k2 : Calls Tryz.prog 207 #[.bool false] w1 fun r w' => r = .returned (.agg (arr6 1 false 0 ⟨#[]⟩)) ∧ Below w1.heap.size w1 w' := k1
  obtain ⟨V, hV⟩ : ∃ V, arr6 1 false 0 ⟨#[]⟩ = V := ⟨_, rfl⟩
  have h6 : V.size = 6 := by rw [← hV]; rfl
  have h1 : V.all (·.oneCell') = true := by rw [← hV]; exact arr6_one _ _ _ _
  rw [hV] at k2 ⊢
  have H6 : Hid (V.size = 6 ∧ V.all (·.oneCell') = true) := ⟨h6, h1⟩
  have HB : Hid (Below w.heap.size w w1) := hb1
  clear hb1 k1 hV h6 h1
  go_enter Tryz.func205, Tryz.ntmps205
  go_wp2_with fail
  refine k2.mono ?_
  rintro q w2 ⟨rfl, hb2⟩
  have rz2 := (hb2.block _ (lt_of_row rz1)).trans rz1
  have HB2 : Hid (Below w1.heap.size w1 w2 ∧ w2.heap[w.heap.size]? = some (.cells zero6 25 (0, 0))) := ⟨hb2, rz2⟩
  clear k2 hb2 rz1 rz2 hw1
  go_wp2_with (refine wpList_put rfl 25 (.tmp 2) (.tmp 13) rfl rfl rfl rfl HB2.out.2 H6.out.1 (info25.trans (congrArg some H6.out.1.symm)) H6.out.2 ?_)
  exact bodyPost_ret (results_row_tmp Tryz.results205 _ _ w.heap.size 25 _ (0, 0) _ rfl (put_row V HB2.out.2 H6.out.1) Tryz.underlying25 rfl (info25.trans (congrArg some H6.out.1.symm))) rfl ⟨rfl, put_below (HB.out.trans (HB2.out.1.mono HB.out.size)) _ (Nat.le_refl _) _⟩
set_option maxRecDepth 100000 in
set_option maxHeartbeats 4000000 in
theorem keyValue_none (t : ByteArray) (h1 : (t.toList == [78, 85, 76, 76]) = false) (h2 : (t.toList == [84, 82, 85, 69]) = false) (h3 : (t.toList == [70, 65, 76, 83, 69]) = false) (w : World) : Calls Tryz.prog 205 #[.string t] w fun r w' => r = .returned (.tuple #[.agg (arr6 0 false 0 ⟨#[]⟩), .bool false]) ∧ Below w.heap.size w w' := by
  obtain ⟨w1, hw1⟩ : ∃ w1, w.alloc (.cells #[.int .i64 0, .bool false, .int .i64 0, .string ⟨#[]⟩, .slice none 0 0, .slice none 0 0] 25) = w1 := ⟨_, rfl⟩
  have hb1 : Below w.heap.size w w1 := by rw [← hw1]; exact (Below.refl _ w).alloc (Nat.le_refl _) _
  have rz1 : w1.heap[w.heap.size]? = some (.cells zero6 25 (0, 0)) := by rw [← hw1]; exact heap_alloc_new _ _
  have HB : Hid (Below w.heap.size w w1 ∧ w1.heap[w.heap.size]? = some (.cells zero6 25 (0, 0))) := ⟨hb1, rz1⟩
  clear hb1 rz1
  go_enter Tryz.func205, Tryz.ntmps205
  go_wp2_with (refine wpList_put rfl 25 (.tmp 2) (.tmp 14) rfl rfl rfl rfl HB.out.2 rfl info25 (by simp [Value.oneCell']) ?_)
  exact bodyPost_ret (results_row_tmp Tryz.results205 _ _ w.heap.size 25 _ (0, 0) _ rfl (put_row _ HB.out.2 rfl) Tryz.underlying25 rfl info25) rfl ⟨rfl, put_below HB.out.1 _ (Nat.le_refl _) _⟩
theorem ba_of {t : ByteArray} {l : List UInt8} (h : t.data.toList = l) : t = ⟨l.toArray⟩ := by
  subst h
  rfl
theorem keyValue_any (t : ByteArray) (w : World) : Calls Tryz.prog 205 #[.string t] w fun r w' => r = .returned (optV (keyV t.data.toList)) ∧ Below w.heap.size w w' := by
  unfold keyV
  split
  · next h => rw [ba_of h]; exact keyValue_null w
  · next h1 =>
    split
    · next h => rw [ba_of h]; exact keyValue_true w
    · next h2 =>
      split
      · next h => rw [ba_of h]; exact keyValue_false w
      · next h3 =>
        refine keyValue_none t ?_ ?_ ?_ w
        · rw [toList_data]; simpa using h1
        · rw [toList_data]; simpa using h2
        · rw [toList_data]; simpa using h3
end Go.Proofs.YtfemippjaokcmaaGreatDoor
namespace Go.Proofs.YtfemippjaokcmaaGreatDoor
open Go.RowKit Go.Shelf
attribute [local go_sem] Oper.semAt_some fw0 fw1 fw2
/- A word of digits says a number. -/
def NumOk (x : Wd) : Prop := x.k = 3 → ∃ v, Lib.parseIntB 64 x.s = .ok v
theorem parse_ok (x : Wd) (hs : x.s.length ≤ 10000) {v : Int} (h : Lib.parseIntB 64 x.s = .ok v) (w : World) :
    Calls Tryz.prog 140 #[.string (wdS x), .int .i64 10, .int .i64 64] w fun e w' => e = .returned (.tuple #[.int .i64 v, .nilIface]) ∧ Below w.heap.size w w' := by
  refine (Tryz.strconv_ParseInt_10_at64_ok (wdS x) (by unfold wdS; simp [ByteArray.size]; omega) v h w).mono ?_
  rintro e w' ⟨rfl, hw⟩
  refine ⟨rfl, ?_⟩
  rcases hw with rfl | ⟨u, rfl⟩
  · exact Below.refl _ _
  · exact Lib.bytesWorld_below _ _ _
set_option maxRecDepth 100000 in
set_option maxHeartbeats 4000000 in
theorem literalOf_str (x : Wd) (hk : (x.k : Int) = 4) (w : World) : Calls Tryz.prog 200 #[wdV x] w fun r w' => r = .returned (.tuple #[.agg (arr6 3 false 0 (wdS x)), .bool true]) ∧ Below w.heap.size w w' := by
  unfold wdV
  obtain ⟨t, ht⟩ : ∃ t, wdS x = t := ⟨_, rfl⟩
  obtain ⟨xa, hxa⟩ : ∃ xa, (x.a : Int) = xa := ⟨_, rfl⟩
  rw [hk, ht, hxa]
  obtain ⟨w2, hw2⟩ : ∃ w2, (w.alloc (.cells #[.int .i64 4, .string t, .int .i64 xa] 128)).alloc (.cells #[.int .i64 0, .bool false, .int .i64 0, .string ⟨#[]⟩, .slice none 0 0, .slice none 0 0] 25) = w2 := ⟨_, rfl⟩
  have hb2 : Below w.heap.size w w2 := by rw [← hw2]; exact ((Below.refl _ w).alloc (Nat.le_refl _) _).alloc (by simp) _
  have hs2 : w2.heap.size = w.heap.size + 1 + 1 := by rw [← hw2]; simp
  have rx2 : w2.heap[w.heap.size]? = some (.cells #[.int .i64 4, .string t, .int .i64 xa] 128 (0, 0)) := by rw [← hw2, Below.heap_alloc _ _ _ (by simp)]; exact heap_alloc_new _ _
  have rz2 : w2.heap[w.heap.size + 1]? = some (.cells zero6 25 (0, 0)) := by rw [← hw2]; exact two_new _ _ _
  have c0 := cell_of_row w2 _ 0 _ _ _ rx2
  have c1 := cell_of_row w2 _ 1 _ _ _ rx2
  have k1 : ∀ W, Calls Tryz.prog 203 #[.string t] W fun r w' => r = .returned (.agg (arr6 3 false 0 t)) ∧ Below W.heap.size W w' := fun W => vstr_any t W
  obtain ⟨V, hV⟩ : ∃ V, arr6 3 false 0 t = V := ⟨_, rfl⟩
  have h6 : V.size = 6 := by rw [← hV]; rfl
  have h1 : V.all (·.oneCell') = true := by rw [← hV]; exact arr6_one _ _ _ _
  rw [hV] at k1 ⊢
  have H6 : Hid (V.size = 6 ∧ V.all (·.oneCell') = true) := ⟨h6, h1⟩
  clear hV h6 h1
  have HB : Hid (Below w.heap.size w w2) := hb2
  clear hb2 rx2 hk ht hxa
  go_enter Tryz.func200, Tryz.ntmps200
  go_wp2_with fail
  refine (k1 _).mono ?_
  rintro q w3 ⟨rfl, hb3⟩
  have HB3 : Hid (Below w2.heap.size w2 w3 ∧ w3.heap[w.heap.size + 1]? = some (.cells zero6 25 (0, 0))) := ⟨hb3, (hb3.block _ (lt_of_row rz2)).trans rz2⟩
  clear k1 hb3 rz2 hw2 c0 c1
  go_wp2_with (refine wpList_put rfl 25 (.tmp 2) (.tmp 24) rfl rfl rfl rfl HB3.out.2 H6.out.1 (info25.trans (congrArg some H6.out.1.symm)) H6.out.2 ?_)
  exact bodyPost_ret (results_row_tmp Tryz.results200 _ _ (w.heap.size + 1) 25 _ (0, 0) _ rfl (put_row V HB3.out.2 H6.out.1) Tryz.underlying25 rfl (info25.trans (congrArg some H6.out.1.symm))) rfl ⟨rfl, put_below (HB.out.trans (HB3.out.1.mono HB.out.size)) _ (Nat.le_succ _) _⟩
set_option maxRecDepth 100000 in
set_option maxHeartbeats 4000000 in
theorem literalOf_hex (x : Wd) (hk : (x.k : Int) = 5) (w : World) : Calls Tryz.prog 200 #[wdV x] w fun r w' => r = .returned (.tuple #[.agg (arr6 4 false 0 (wdS x)), .bool true]) ∧ Below w.heap.size w w' := by
  unfold wdV
  obtain ⟨t, ht⟩ : ∃ t, wdS x = t := ⟨_, rfl⟩
  obtain ⟨xa, hxa⟩ : ∃ xa, (x.a : Int) = xa := ⟨_, rfl⟩
  rw [hk, ht, hxa]
  obtain ⟨w2, hw2⟩ : ∃ w2, (w.alloc (.cells #[.int .i64 5, .string t, .int .i64 xa] 128)).alloc (.cells #[.int .i64 0, .bool false, .int .i64 0, .string ⟨#[]⟩, .slice none 0 0, .slice none 0 0] 25) = w2 := ⟨_, rfl⟩
  have hb2 : Below w.heap.size w w2 := by rw [← hw2]; exact ((Below.refl _ w).alloc (Nat.le_refl _) _).alloc (by simp) _
  have hs2 : w2.heap.size = w.heap.size + 1 + 1 := by rw [← hw2]; simp
  have rx2 : w2.heap[w.heap.size]? = some (.cells #[.int .i64 5, .string t, .int .i64 xa] 128 (0, 0)) := by rw [← hw2, Below.heap_alloc _ _ _ (by simp)]; exact heap_alloc_new _ _
  have rz2 : w2.heap[w.heap.size + 1]? = some (.cells zero6 25 (0, 0)) := by rw [← hw2]; exact two_new _ _ _
  have c0 := cell_of_row w2 _ 0 _ _ _ rx2
  have c1 := cell_of_row w2 _ 1 _ _ _ rx2
  have k1 : ∀ W, Calls Tryz.prog 204 #[.string t] W fun r w' => r = .returned (.agg (arr6 4 false 0 t)) ∧ Below W.heap.size W w' := fun W => vbytes_any t W
  obtain ⟨V, hV⟩ : ∃ V, arr6 4 false 0 t = V := ⟨_, rfl⟩
  have h6 : V.size = 6 := by rw [← hV]; rfl
  have h1 : V.all (·.oneCell') = true := by rw [← hV]; exact arr6_one _ _ _ _
  rw [hV] at k1 ⊢
  have H6 : Hid (V.size = 6 ∧ V.all (·.oneCell') = true) := ⟨h6, h1⟩
  clear hV h6 h1
  have HB : Hid (Below w.heap.size w w2) := hb2
  clear hb2 rx2 hk ht hxa
  go_enter Tryz.func200, Tryz.ntmps200
  go_wp2_with fail
  refine (k1 _).mono ?_
  rintro q w3 ⟨rfl, hb3⟩
  have HB3 : Hid (Below w2.heap.size w2 w3 ∧ w3.heap[w.heap.size + 1]? = some (.cells zero6 25 (0, 0))) := ⟨hb3, (hb3.block _ (lt_of_row rz2)).trans rz2⟩
  clear k1 hb3 rz2 hw2 c0 c1
  go_wp2_with (refine wpList_put rfl 25 (.tmp 2) (.tmp 29) rfl rfl rfl rfl HB3.out.2 H6.out.1 (info25.trans (congrArg some H6.out.1.symm)) H6.out.2 ?_)
  exact bodyPost_ret (results_row_tmp Tryz.results200 _ _ (w.heap.size + 1) 25 _ (0, 0) _ rfl (put_row V HB3.out.2 H6.out.1) Tryz.underlying25 rfl (info25.trans (congrArg some H6.out.1.symm))) rfl ⟨rfl, put_below (HB.out.trans (HB3.out.1.mono HB.out.size)) _ (Nat.le_succ _) _⟩
set_option maxRecDepth 100000 in
set_option maxHeartbeats 4000000 in
theorem literalOf_key (x : Wd) (hk : (x.k : Int) = 2) (v : Nat × Bool × Int × ByteArray) (h : keyV x.s = some v) (w : World) : Calls Tryz.prog 200 #[wdV x] w fun r w' => r = .returned (optV (some v)) ∧ Below w.heap.size w w' := by
  have hd : (wdS x).data.toList = x.s := rfl
  have k0 : ∀ W, Calls Tryz.prog 205 #[.string (wdS x)] W fun r w' => r = .returned (optV (keyV (wdS x).data.toList)) ∧ Below W.heap.size W w' := fun W => keyValue_any _ W
  rw [hd, h] at k0
  clear h hd
  unfold optV at k0 ⊢
  dsimp only at k0 ⊢
  unfold wdV
  obtain ⟨t, ht⟩ : ∃ t, wdS x = t := ⟨_, rfl⟩
  obtain ⟨xa, hxa⟩ : ∃ xa, (x.a : Int) = xa := ⟨_, rfl⟩
  rw [hk, ht, hxa]
  obtain ⟨w2, hw2⟩ : ∃ w2, (w.alloc (.cells #[.int .i64 2, .string t, .int .i64 xa] 128)).alloc (.cells #[.int .i64 0, .bool false, .int .i64 0, .string ⟨#[]⟩, .slice none 0 0, .slice none 0 0] 25) = w2 := ⟨_, rfl⟩
  have hb2 : Below w.heap.size w w2 := by rw [← hw2]; exact ((Below.refl _ w).alloc (Nat.le_refl _) _).alloc (by simp) _
  have hs2 : w2.heap.size = w.heap.size + 1 + 1 := by rw [← hw2]; simp
  have rx2 : w2.heap[w.heap.size]? = some (.cells #[.int .i64 2, .string t, .int .i64 xa] 128 (0, 0)) := by rw [← hw2, Below.heap_alloc _ _ _ (by simp)]; exact heap_alloc_new _ _
  have rz2 : w2.heap[w.heap.size + 1]? = some (.cells zero6 25 (0, 0)) := by rw [← hw2]; exact two_new _ _ _
  have c0 := cell_of_row w2 _ 0 _ _ _ rx2
  have c1 := cell_of_row w2 _ 1 _ _ _ rx2
  rw [ht] at k0
  have k1 := k0
  clear k0
  obtain ⟨V, hV⟩ : ∃ V, arr6 v.1 v.2.1 v.2.2.1 v.2.2.2 = V := ⟨_, rfl⟩
  have h6 : V.size = 6 := by rw [← hV]; rfl
  have h1 : V.all (·.oneCell') = true := by rw [← hV]; exact arr6_one _ _ _ _
  rw [hV] at k1 ⊢
  have H6 : Hid (V.size = 6 ∧ V.all (·.oneCell') = true) := ⟨h6, h1⟩
  clear hV h6 h1
  have HB : Hid (Below w.heap.size w w2) := hb2
  clear hb2 rx2 hk ht hxa
  go_enter Tryz.func200, Tryz.ntmps200
  go_wp2_with fail
  refine (k1 _).mono ?_
  rintro q w3 ⟨rfl, hb3⟩
  have HB3 : Hid (Below w2.heap.size w2 w3 ∧ w3.heap[w.heap.size + 1]? = some (.cells zero6 25 (0, 0))) := ⟨hb3, (hb3.block _ (lt_of_row rz2)).trans rz2⟩
  clear k1 hb3 rz2 hw2 c0 c1
  go_wp2_with (refine wpList_put rfl 25 (.tmp 2) (.tmp 35) rfl rfl rfl rfl HB3.out.2 H6.out.1 (info25.trans (congrArg some H6.out.1.symm)) H6.out.2 ?_)
  exact bodyPost_ret (results_row_tmp Tryz.results200 _ _ (w.heap.size + 1) 25 _ (0, 0) _ rfl (put_row V HB3.out.2 H6.out.1) Tryz.underlying25 rfl (info25.trans (congrArg some H6.out.1.symm))) rfl ⟨rfl, put_below (HB.out.trans (HB3.out.1.mono HB.out.size)) _ (Nat.le_succ _) _⟩
set_option maxRecDepth 100000 in
set_option maxHeartbeats 4000000 in
theorem literalOf_keyno (x : Wd) (hk : (x.k : Int) = 2) (h : keyV x.s = none) (w : World) : Calls Tryz.prog 200 #[wdV x] w fun r w' => r = .returned (optV (none)) ∧ Below w.heap.size w w' := by
  have hd : (wdS x).data.toList = x.s := rfl
  have k0 : ∀ W, Calls Tryz.prog 205 #[.string (wdS x)] W fun r w' => r = .returned (optV (keyV (wdS x).data.toList)) ∧ Below W.heap.size W w' := fun W => keyValue_any _ W
  rw [hd, h] at k0
  clear h hd
  unfold optV at k0 ⊢
  dsimp only at k0 ⊢
  unfold wdV
  obtain ⟨t, ht⟩ : ∃ t, wdS x = t := ⟨_, rfl⟩
  obtain ⟨xa, hxa⟩ : ∃ xa, (x.a : Int) = xa := ⟨_, rfl⟩
  rw [hk, ht, hxa]
  obtain ⟨w2, hw2⟩ : ∃ w2, (w.alloc (.cells #[.int .i64 2, .string t, .int .i64 xa] 128)).alloc (.cells #[.int .i64 0, .bool false, .int .i64 0, .string ⟨#[]⟩, .slice none 0 0, .slice none 0 0] 25) = w2 := ⟨_, rfl⟩
  have hb2 : Below w.heap.size w w2 := by rw [← hw2]; exact ((Below.refl _ w).alloc (Nat.le_refl _) _).alloc (by simp) _
  have hs2 : w2.heap.size = w.heap.size + 1 + 1 := by rw [← hw2]; simp
  have rx2 : w2.heap[w.heap.size]? = some (.cells #[.int .i64 2, .string t, .int .i64 xa] 128 (0, 0)) := by rw [← hw2, Below.heap_alloc _ _ _ (by simp)]; exact heap_alloc_new _ _
  have rz2 : w2.heap[w.heap.size + 1]? = some (.cells zero6 25 (0, 0)) := by rw [← hw2]; exact two_new _ _ _
  have c0 := cell_of_row w2 _ 0 _ _ _ rx2
  have c1 := cell_of_row w2 _ 1 _ _ _ rx2
  rw [ht] at k0
  have k1 := k0
  clear k0
  obtain ⟨V, hV⟩ : ∃ V, arr6 0 false 0 ⟨#[]⟩ = V := ⟨_, rfl⟩
  have h6 : V.size = 6 := by rw [← hV]; rfl
  have h1 : V.all (·.oneCell') = true := by rw [← hV]; exact arr6_one _ _ _ _
  rw [hV] at k1 ⊢
  have H6 : Hid (V.size = 6 ∧ V.all (·.oneCell') = true) := ⟨h6, h1⟩
  clear hV h6 h1
  have HB : Hid (Below w.heap.size w w2) := hb2
  clear hb2 rx2 hk ht hxa
  go_enter Tryz.func200, Tryz.ntmps200
  go_wp2_with fail
  refine (k1 _).mono ?_
  rintro q w3 ⟨rfl, hb3⟩
  have HB3 : Hid (Below w2.heap.size w2 w3 ∧ w3.heap[w.heap.size + 1]? = some (.cells zero6 25 (0, 0))) := ⟨hb3, (hb3.block _ (lt_of_row rz2)).trans rz2⟩
  clear k1 hb3 rz2 hw2 c0 c1
  go_wp2_with (refine wpList_put rfl 25 (.tmp 2) (.tmp 35) rfl rfl rfl rfl HB3.out.2 H6.out.1 (info25.trans (congrArg some H6.out.1.symm)) H6.out.2 ?_)
  exact bodyPost_ret (results_row_tmp Tryz.results200 _ _ (w.heap.size + 1) 25 _ (0, 0) _ rfl (put_row V HB3.out.2 H6.out.1) Tryz.underlying25 rfl (info25.trans (congrArg some H6.out.1.symm))) rfl ⟨rfl, put_below (HB.out.trans (HB3.out.1.mono HB.out.size)) _ (Nat.le_succ _) _⟩
set_option maxRecDepth 100000 in
set_option maxHeartbeats 4000000 in
theorem literalOf_none (x : Wd) (h2 : ¬ (x.k : Int) = 2) (h3 : ¬ (x.k : Int) = 3) (h4 : ¬ (x.k : Int) = 4) (h5 : ¬ (x.k : Int) = 5) (w : World) : Calls Tryz.prog 200 #[wdV x] w fun r w' => r = .returned (.tuple #[.agg (arr6 0 false 0 ⟨#[]⟩), .bool false]) ∧ Below w.heap.size w w' := by
  unfold wdV
  obtain ⟨t, ht⟩ : ∃ t, wdS x = t := ⟨_, rfl⟩
  obtain ⟨xa, hxa⟩ : ∃ xa, (x.a : Int) = xa := ⟨_, rfl⟩
  obtain ⟨xk, hxk⟩ : ∃ xk, (x.k : Int) = xk := ⟨_, rfl⟩
  rw [hxk] at h2 h3 h4 h5
  rw [ht, hxa, hxk]
  obtain ⟨w2, hw2⟩ : ∃ w2, (w.alloc (.cells #[.int .i64 xk, .string t, .int .i64 xa] 128)).alloc (.cells #[.int .i64 0, .bool false, .int .i64 0, .string ⟨#[]⟩, .slice none 0 0, .slice none 0 0] 25) = w2 := ⟨_, rfl⟩
  have hb2 : Below w.heap.size w w2 := by rw [← hw2]; exact ((Below.refl _ w).alloc (Nat.le_refl _) _).alloc (by simp) _
  have hs2 : w2.heap.size = w.heap.size + 1 + 1 := by rw [← hw2]; simp
  have rx2 : w2.heap[w.heap.size]? = some (.cells #[.int .i64 xk, .string t, .int .i64 xa] 128 (0, 0)) := by rw [← hw2, Below.heap_alloc _ _ _ (by simp)]; exact heap_alloc_new _ _
  have rz2 : w2.heap[w.heap.size + 1]? = some (.cells zero6 25 (0, 0)) := by rw [← hw2]; exact two_new _ _ _
  have c0 := cell_of_row w2 _ 0 _ _ _ rx2
  have c1 := cell_of_row w2 _ 1 _ _ _ rx2
  have HB : Hid (Below w.heap.size w w2 ∧ w2.heap[w.heap.size + 1]? = some (.cells zero6 25 (0, 0))) := ⟨hb2, rz2⟩
  clear hb2 rz2 rx2 hxk ht hxa
  go_enter Tryz.func200, Tryz.ntmps200
  go_wp2_with (refine wpList_put rfl 25 (.tmp 2) (.tmp 37) rfl rfl rfl rfl HB.out.2 rfl info25 (by simp [Value.oneCell']) ?_)
  exact bodyPost_ret (results_row_tmp Tryz.results200 _ _ (w.heap.size + 1) 25 _ (0, 0) _ rfl (put_row _ HB.out.2 rfl) Tryz.underlying25 rfl info25) rfl ⟨rfl, put_below HB.out.1 _ (Nat.le_succ _) _⟩
end Go.Proofs.YtfemippjaokcmaaGreatDoor
namespace Go.Proofs.YtfemippjaokcmaaGreatDoor
open Go.RowKit Go.Shelf
attribute [local go_sem] Oper.semAt_some fw0 fw1 fw2
set_option maxRecDepth 100000 in
set_option maxHeartbeats 4000000 in
theorem literalOf_num (x : Wd) (hk : (x.k : Int) = 3) (hs : x.s.length ≤ 10000) {v : Int} (h : Lib.parseIntB 64 x.s = .ok v) (w : World) : Calls Tryz.prog 200 #[wdV x] w fun r w' => r = .returned (.tuple #[.agg (arr6 2 false v ⟨#[]⟩), .bool true]) ∧ Below w.heap.size w w' := by
  have kp := parse_ok x hs h
  clear h hs
  unfold wdV
  obtain ⟨t, ht⟩ : ∃ t, wdS x = t := ⟨_, rfl⟩
  obtain ⟨xa, hxa⟩ : ∃ xa, (x.a : Int) = xa := ⟨_, rfl⟩
  rw [hk, ht, hxa]
  obtain ⟨w2, hw2⟩ : ∃ w2, (w.alloc (.cells #[.int .i64 3, .string t, .int .i64 xa] 128)).alloc (.cells #[.int .i64 0, .bool false, .int .i64 0, .string ⟨#[]⟩, .slice none 0 0, .slice none 0 0] 25) = w2 := ⟨_, rfl⟩
  have hb2 : Below w.heap.size w w2 := by rw [← hw2]; exact ((Below.refl _ w).alloc (Nat.le_refl _) _).alloc (by simp) _
  have hs2 : w2.heap.size = w.heap.size + 1 + 1 := by rw [← hw2]; simp
  have rx2 : w2.heap[w.heap.size]? = some (.cells #[.int .i64 3, .string t, .int .i64 xa] 128 (0, 0)) := by rw [← hw2, Below.heap_alloc _ _ _ (by simp)]; exact heap_alloc_new _ _
  have rz2 : w2.heap[w.heap.size + 1]? = some (.cells zero6 25 (0, 0)) := by rw [← hw2]; exact two_new _ _ _
  have c0 := cell_of_row w2 _ 0 _ _ _ rx2
  have c1 := cell_of_row w2 _ 1 _ _ _ rx2
  rw [ht] at kp
  have k1 : ∀ W, Calls Tryz.prog 24 #[.int .i64 v] W fun r w' => r = .returned (.agg #[.int .i64 2, .bool false, .int .i64 v, .string ⟨#[]⟩, .slice none 0 0, .slice none 0 0]) ∧ Below W.heap.size W w' := fun W => vint_any v W
  have HB : Hid (Below w.heap.size w w2) := hb2
  clear hb2 rx2 hk ht hxa
  go_enter Tryz.func200, Tryz.ntmps200
  go_wp2_with fail
  refine (kp _).mono ?_
  rintro q w3 ⟨rfl, hb3⟩
  have HB3 : Hid (Below w2.heap.size w2 w3 ∧ w3.heap[w.heap.size + 1]? = some (.cells zero6 25 (0, 0))) := ⟨hb3, (hb3.block _ (lt_of_row rz2)).trans rz2⟩
  clear kp hb3 rz2 hw2 c0 c1
  go_wp2_with fail
  go_region_with (first | (go_simp; go_at_call 24; refine (k1 _).mono ?_; rintro q w4 ⟨rfl, hb4⟩; have rz4 := (hb4.block _ (lt_of_row HB3.out.2)).trans HB3.out.2; unfold zero6 at rz4; have q0 := cell_of_row w4 _ 0 _ _ _ rz4; have g0 := frozen_of_row w4 _ 0 _ _ rz4; have q1 := cell_of_row w4 _ 1 _ _ _ rz4; have g1 := frozen_of_row w4 _ 1 _ _ rz4; have q2 := cell_of_row w4 _ 2 _ _ _ rz4; have g2 := frozen_of_row w4 _ 2 _ _ rz4; have q3 := cell_of_row w4 _ 3 _ _ _ rz4; have g3 := frozen_of_row w4 _ 3 _ _ rz4; have q4 := cell_of_row w4 _ 4 _ _ _ rz4; have g4 := frozen_of_row w4 _ 4 _ _ rz4; have q5 := cell_of_row w4 _ 5 _ _ _ rz4; have g5 := frozen_of_row w4 _ 5 _ _ rz4; have HB4 : Hid (Below w3.heap.size w3 w4 ∧ w4.heap[w.heap.size + 1]? = some (.cells zero6 25 (0, 0))) := ⟨⟨hb4.os, hb4.tape, hb4.output, hb4.size, hb4.block⟩, rz4⟩; clear hb4 rz4))
  all_goals go_wp2
  all_goals exact bodyPost_ret (results_row_tmp Tryz.results200 _ _ (w.heap.size + 1) 25 _ (0, 0) _ rfl (put_row #[.int .i64 2, .bool false, .int .i64 v, .string ⟨#[]⟩, .slice none 0 0, .slice none 0 0] HB4.out.2 rfl) Tryz.underlying25 rfl info25) rfl ⟨rfl, put_below ((HB.out.trans (HB3.out.1.mono HB.out.size)).trans (HB4.out.1.mono (Nat.le_trans HB.out.size HB3.out.1.size))) (w.heap.size + 1) (Nat.le_succ _) #[.int .i64 2, .bool false, .int .i64 v, .string ⟨#[]⟩, .slice none 0 0, .slice none 0 0]⟩
theorem litV_key (x : Wd) (h : x.k = 2) : litV x = keyV x.s := by
  unfold litV keyV
  rw [if_neg (by omega), if_neg (by omega), if_neg (by omega), if_pos h]
theorem literalOf_any (x : Wd) (hs : x.s.length ≤ 10000) (hn : NumOk x) (w : World) : Calls Tryz.prog 200 #[wdV x] w fun r w' => r = .returned (optV (litV x)) ∧ Below w.heap.size w w' := by
  by_cases h3 : x.k = 3
  · obtain ⟨v, hv⟩ := hn h3
    have e : litV x = some (2, false, v, ⟨#[]⟩) := by unfold litV; rw [if_pos h3, hv]
    rw [e]
    exact literalOf_num x (by omega) hs hv w
  · by_cases h4 : x.k = 4
    · have e : litV x = some (3, false, 0, wdS x) := by unfold litV; rw [if_neg h3, if_pos h4]
      rw [e]
      exact literalOf_str x (by omega) w
    · by_cases h5 : x.k = 5
      · have e : litV x = some (4, false, 0, wdS x) := by unfold litV; rw [if_neg h3, if_neg h4, if_pos h5]
        rw [e]
        exact literalOf_hex x (by omega) w
      · by_cases h2 : x.k = 2
        · rw [litV_key x h2]
          cases hq : keyV x.s with
          | some v => exact literalOf_key x (by omega) v hq w
          | none => exact literalOf_keyno x (by omega) hq w
        · have e : litV x = none := by unfold litV; rw [if_neg h3, if_neg h4, if_neg h5, if_neg h2]
          rw [e]
          exact literalOf_none x (by omega) (by omega) (by omega) (by omega) w
end Go.Proofs.YtfemippjaokcmaaGreatDoor
namespace Go.Proofs.YtfemippjaokcmaaGreatDoor
open Go.RowKit Go.Shelf
attribute [local go_sem] Oper.semAt_some fw0 fw1 fw2
theorem enV_ones (e : En) (kp : Option Addr) (kc : Nat) (np : Option Addr) (nc : Nat) : ∃ V, enV e kp kc np nc = .agg V ∧ V.size = 10 ∧ V.all (·.oneCell') = true := ⟨_, rfl, rfl, by simp [Value.oneCell']⟩
/- A box of the results is there, the block ahead of it all. -/
theorem LiesE.agg {w : World} {S : Nat → Prop} {d : Nat} {t : Et} {v : Value} (h : LiesE w S d t v) : ∃ V, v = .agg V ∧ V.size = 10 ∧ V.all (·.oneCell') = true := by
  obtain ⟨kp, kc, np, nc, rfl⟩ := h.form
  exact enV_ones _ _ _ _ _
theorem i28 {V : Array Value} (h : V.size = 10) : (Tryz.prog.info? 28).map (·.size) = some V.size := info28.trans (congrArg some h.symm)
set_option maxRecDepth 100000 in
set_option maxHeartbeats 8000000 in
theorem literal_any {w : World} {b : Nat} {p : Option Addr} {c : Nat} {ws : List Wd} {s : PS} (H : Ps w b p c ws s) (hz : Wz ws) (hex : s.ex ≤ 900000) (hs : (wAt ws s.at').s.length ≤ 10000) (hn : NumOk (wAt ws s.at')) :
    Calls Tryz.prog 185 #[.pointer (some ⟨b, 0, none⟩)] w (Gives ws (fun k => w.heap.size ≤ k) w b p c (litF ws s)) := by
  have hold := H.old
  have lb := lt_of_row H.row
  obtain ⟨w1, hw1⟩ : ∃ w1, w.alloc (.cells #[.int .i64 0, .string ⟨#[]⟩, .int .i64 0, .bool false, .int .i64 0, .string ⟨#[]⟩, .slice none 0 0, .slice none 0 0, .slice none 0 0, .slice none 0 0] 28) = w1 := ⟨_, rfl⟩
  have hb1 : Below w.heap.size w w1 := by rw [← hw1]; exact (Below.refl _ w).alloc (Nat.le_refl _) _
  have hs1 : w1.heap.size = w.heap.size + 1 := by rw [← hw1]; simp
  have rz1 : w1.heap[w.heap.size]? = some (.cells zero10 28 (0, 0)) := by rw [← hw1]; exact heap_alloc_new _ _
  have kw := word_any (H.later hb1)
  have kl := fun W => literalOf_any (wAt ws s.at') hs hn W
  have hlit := fun v => litV_kind (x := wAt ws s.at') (v := v)
  have hnx := hz.next (i := s.at') H.lt
  unfold litF
  obtain ⟨x, hx⟩ : ∃ x, wAt ws s.at' = x := ⟨_, rfl⟩
  rw [hx] at kw kl hlit hnx ⊢
  cases hv : litV x with
  | some v =>
    have h1 := hnx (hlit _ hv)
    rw [hv] at kl
    unfold optV at kl
    dsimp only at kl ⊢
    obtain ⟨vk, vb, vn, vs⟩ := v
    unfold arr6 at kl
    dsimp only at kl
    have HH : Hid (Ps w b p c ws s ∧ Below w.heap.size w w1) := ⟨H, hb1⟩
    unfold wdV at kw kl
    clear H hb1 hs hn hlit hnx hv hx
    obtain ⟨kk, hkk⟩ : ∃ kk, (vk : Int) = kk := ⟨_, rfl⟩
    rw [hkk] at kl
    go_enter Tryz.func185, Tryz.ntmps185
    go_wp2_with fail
    refine kw.mono ?_
    rintro q w2 ⟨rfl, hb2⟩
    have s2 := hb2.size
    have HB2 : Hid (Below w1.heap.size w1 w2) := hb2
    have rz2 := (hb2.block _ (by omega)).trans rz1
    clear kw hb2 hw1 rz1
    go_wp2_with fail
    refine (kl _).mono ?_
    rintro q w3 ⟨rfl, hb3⟩
    have s3 := hb3.size
    have rz3 := (hb3.block _ (by omega)).trans rz2
    obtain ⟨w4, hw4⟩ : ∃ w4, w3.alloc (.cells #[.int .i64 0, .bool false, .int .i64 0, .string ⟨#[]⟩, .slice none 0 0, .slice none 0 0] 25) = w4 := ⟨_, rfl⟩
    have hb4 : Below w3.heap.size w3 w4 := by rw [← hw4]; exact (Below.refl _ w3).alloc (Nat.le_refl _) _
    have hs4 : w4.heap.size = w3.heap.size + 1 := by rw [← hw4]; simp
    have rv4 : w4.heap[w3.heap.size]? = some (.cells zero6 25 (0, 0)) := by rw [← hw4]; exact heap_alloc_new _ _
    have rz4 := (hb4.block _ (by omega)).trans rz3
    have rv5 := put_row #[.int .i64 kk, .bool vb, .int .i64 vn, .string vs, .slice none 0 0, .slice none 0 0] rv4 rfl
    have rz5 : (put w4 w3.heap.size #[.int .i64 kk, .bool vb, .int .i64 vn, .string vs, .slice none 0 0, .slice none 0 0]).heap[w.heap.size]? = _ := (put_other (by omega) _).trans rz4
    have s5 := put_size w4 w3.heap.size #[.int .i64 kk, .bool vb, .int .i64 vn, .string vs, .slice none 0 0, .slice none 0 0]
    have hB5 : Below w3.heap.size w3 (put w4 w3.heap.size #[.int .i64 kk, .bool vb, .int .i64 vn, .string vs, .slice none 0 0, .slice none 0 0]) := put_below hb4 _ (Nat.le_refl _) _
    obtain ⟨w5, hw5⟩ : ∃ w5, put w4 w3.heap.size #[.int .i64 kk, .bool vb, .int .i64 vn, .string vs, .slice none 0 0, .slice none 0 0] = w5 := ⟨_, rfl⟩
    rw [hw5] at rv5 rz5 s5 hB5
    have kt := take_any (((HH.out.1.later HH.out.2).later HB2.out).later (hb3.trans (hB5.mono hb3.size))) h1
    have HB5 : Hid (Below w2.heap.size w2 w5 ∧ w4.heap[w3.heap.size]? = some (.cells zero6 25 (0, 0))) := ⟨hb3.trans (hB5.mono hb3.size), rv4⟩
    clear kl hb3 hb4 hB5 rz2 rz3 rz4 rv4 h1
    go_wp2_with (first | (refine wpList_put rfl 25 (.tmp 3) (.tmp 9) rfl rfl rfl rfl HB5.out.2 rfl info25 (by simp [Value.oneCell']) ?_; rw [hw5]) | fail)
    refine kt.mono ?_
    rintro q w6 ⟨rfl, hP6, hO6⟩
    have s6 := hO6.size
    have rz6 := (hO6.block _ (by omega) (by omega)).trans rz5
    have rv6 := (hO6.block _ (by omega) (by omega)).trans rv5
    have kw := whole_any hP6 (show (takeP s).ex ≤ 1000000 from Nat.le_trans hex (by omega)) (⟨1, ⟨#[]⟩, vk, vb, vn, vs, 0, 0, fun _ => ⟨#[]⟩⟩ : En) none 0 none 0
    have kw' : Calls Tryz.prog 182 #[.pointer (some ⟨b, 0, none⟩), .agg #[.int .i64 1, .string ⟨#[]⟩, .int .i64 kk, .bool vb, .int .i64 vn, .string vs, .slice none 0 0, .slice none 0 0, .slice none 0 0, .slice none 0 0]] w6 fun r w' => r = .returned (enV (⟨1, ⟨#[]⟩, vk, vb, vn, vs, 0, 0, fun _ => ⟨#[]⟩⟩ : En) none 0 none 0) ∧ Ps w' b p c ws (wholeP ws (takeP s)) ∧ Onl b w6 w' := by rw [← hkk]; exact kw
    have H6 : Hid (Onl b w5 w6 ∧ w6.heap[w3.heap.size]? = some (.cells #[.int .i64 kk, .bool vb, .int .i64 vn, .string vs, .slice none 0 0, .slice none 0 0] 25 (0, 0))) := ⟨hO6, rv6⟩
    clear kt kw hP6 hO6 rz5 rv5 rv6 hw4 hw5
    go_wp2_with (first | (refine wpList_get rfl 25 (.tmp 3) rfl rfl H6.out.2 Tryz.underlying25 rfl info25 ?_; simp only [Act.put, List.setIfInBounds_toArray, List.set_cons_zero, List.set_cons_succ]) | fail)
    refine kw'.mono ?_
    rintro q w7 ⟨rfl, hP7, hO7⟩
    have s7 := hO7.size
    have rz7 := (hO7.block _ (by omega) (by omega)).trans rz6
    obtain ⟨V, hV, h10, hon⟩ := enV_ones (⟨1, ⟨#[]⟩, vk, vb, vn, vs, 0, 0, fun _ => ⟨#[]⟩⟩ : En) none 0 none 0
    rw [hV]
    have H7 : Hid (Ps w7 b p c ws (wholeP ws (takeP s)) ∧ Onl b w6 w7 ∧ w7.heap[w.heap.size]? = some (.cells zero10 28 (0, 0)) ∧ enV (⟨1, ⟨#[]⟩, vk, vb, vn, vs, 0, 0, fun _ => ⟨#[]⟩⟩ : En) none 0 none 0 = .agg V ∧ V.size = 10 ∧ V.all (·.oneCell') = true) := ⟨hP7, hO7, rz7, hV, h10, hon⟩
    clear kw' hP7 hO7 rz7 hV h10 hon rz6
    go_wp2_with (first | (refine wpList_put rfl 28 (.tmp 2) (.tmp 21) rfl rfl rfl rfl H7.out.2.2.1 H7.out.2.2.2.2.1 (i28 H7.out.2.2.2.2.1) H7.out.2.2.2.2.2 ?_) | fail)
    obtain ⟨hP7, hO7, rz7, hV, h10, hon⟩ := H7.out
    refine bodyPost_ret (results_cell_row Tryz.results185 _ _ w.heap.size 28 _ (0, 0) _ rfl (put_row V rz7 h10) Tryz.underlying28 rfl (i28 h10)) rfl ⟨1, _, rfl, ?_, hP7.put lb hold V, ?_⟩
    · rw [← hV]
      exact LiesE.leaf _ _ _ rfl rfl _
    · exact (((((Onl.of HH.out.2).trans (Onl.of HB2.out)).trans (Onl.of HB5.out.1)).trans H6.out.1).trans hO7).put _ (Nat.le_refl _) V
  | none =>
    rw [hv] at kl
    unfold optV arr6 at kl
    dsimp only at kl ⊢
    have HH : Hid (Ps w b p c ws s ∧ Below w.heap.size w w1) := ⟨H, hb1⟩
    unfold wdV at kw kl
    clear H hb1 hs hn hlit hnx hv hx
    go_enter Tryz.func185, Tryz.ntmps185
    go_wp2_with fail
    refine kw.mono ?_
    rintro q w2 ⟨rfl, hb2⟩
    have s2 := hb2.size
    have HB2 : Hid (Below w1.heap.size w1 w2) := hb2
    have rz2 := (hb2.block _ (by omega)).trans rz1
    clear kw hb2 hw1 rz1
    go_wp2_with fail
    refine (kl _).mono ?_
    rintro q w3 ⟨rfl, hb3⟩
    have s3 := hb3.size
    have rz3 := (hb3.block _ (by omega)).trans rz2
    obtain ⟨w4, hw4⟩ : ∃ w4, w3.alloc (.cells #[.int .i64 0, .bool false, .int .i64 0, .string ⟨#[]⟩, .slice none 0 0, .slice none 0 0] 25) = w4 := ⟨_, rfl⟩
    have hb4 : Below w3.heap.size w3 w4 := by rw [← hw4]; exact (Below.refl _ w3).alloc (Nat.le_refl _) _
    have hs4 : w4.heap.size = w3.heap.size + 1 := by rw [← hw4]; simp
    have rv4 : w4.heap[w3.heap.size]? = some (.cells zero6 25 (0, 0)) := by rw [← hw4]; exact heap_alloc_new _ _
    have rz4 := (hb4.block _ (by omega)).trans rz3
    have rz5 : (put w4 w3.heap.size #[.int .i64 0, .bool false, .int .i64 0, .string ⟨#[]⟩, .slice none 0 0, .slice none 0 0]).heap[w.heap.size]? = _ := (put_other (by omega) _).trans rz4
    have s5 := put_size w4 w3.heap.size #[.int .i64 0, .bool false, .int .i64 0, .string ⟨#[]⟩, .slice none 0 0, .slice none 0 0]
    have hB5 : Below w3.heap.size w3 (put w4 w3.heap.size #[.int .i64 0, .bool false, .int .i64 0, .string ⟨#[]⟩, .slice none 0 0, .slice none 0 0]) := put_below hb4 _ (Nat.le_refl _) _
    obtain ⟨w5, hw5⟩ : ∃ w5, put w4 w3.heap.size #[.int .i64 0, .bool false, .int .i64 0, .string ⟨#[]⟩, .slice none 0 0, .slice none 0 0] = w5 := ⟨_, rfl⟩
    rw [hw5] at rz5 s5 hB5
    have kt := fail_any (((HH.out.1.later HH.out.2).later HB2.out).later (hb3.trans (hB5.mono hb3.size))) 120
    have HB5 : Hid (Below w2.heap.size w2 w5 ∧ w4.heap[w3.heap.size]? = some (.cells zero6 25 (0, 0))) := ⟨hb3.trans (hB5.mono hb3.size), rv4⟩
    clear kl hb3 hb4 hB5 rz2 rz3 rz4 rv4
    go_wp2_with (first | (refine wpList_put rfl 25 (.tmp 3) (.tmp 9) rfl rfl rfl rfl HB5.out.2 rfl info25 (by simp [Value.oneCell']) ?_; rw [hw5]) | fail)
    refine kt.mono ?_
    rintro q w6 ⟨rfl, hP6, hO6⟩
    have s6 := hO6.size
    have rz6 := (hO6.block _ (by omega) (by omega)).trans rz5
    have H6 : Hid (Onl b w5 w6 ∧ w6.heap[w.heap.size]? = some (.cells zero10 28 (0, 0)) ∧ Ps w6 b p c ws (failP ws s 120)) := ⟨hO6, rz6, hP6⟩
    clear kt hP6 hO6 rz5 rz6 hw4 hw5
    go_wp2_with (first | (refine wpList_put rfl 28 (.tmp 2) (.tmp 15) rfl rfl rfl rfl H6.out.2.1 rfl info28 (by simp [Value.oneCell']) ?_) | fail)
    obtain ⟨hO6, rz6, hP6⟩ := H6.out
    refine bodyPost_ret (results_cell_row Tryz.results185 _ _ w.heap.size 28 _ (0, 0) _ rfl (put_row _ rz6 rfl) Tryz.underlying28 rfl info28) rfl ⟨1, _, rfl, ?_, hP6.put lb hold _, ?_⟩
    · exact LiesE.leaf _ _ zeroE rfl rfl _
    · exact (((((Onl.of HH.out.2).trans (Onl.of HB2.out)).trans (Onl.of HB5.out.1)).trans hO6)).put _ (Nat.le_refl _) _
end Go.Proofs.YtfemippjaokcmaaGreatDoor
