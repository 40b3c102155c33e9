/- Whether a statement may be (Stmt): its cases. -/
import Derived.Test.YtcniebkehekliaaGreatDoorWhe
namespace Go.Proofs.YtcniebkehekliaaGreatDoor
open Go.RowKit Go.Shelf
attribute [local go_sem] Oper.semAt_some
set_option maxRecDepth 100000 in
set_option maxHeartbeats 8000000 in
theorem stmt_table_true (Q : QR) (w : World) (mv : Value) (fp : Option Addr) (fn fc : Nat) (hlk : ∀ W, Below w.heap.size w W → (Instr.lookup 48 mv (.string Q.t) true).run Tryz.prog W = .ok (.tuple #[.slice fp fn fc, .bool true]) W) (hk : Q.k = 1) :
    Calls Tryz.prog 12 #[mv, .agg (qrA Q)] w fun r w' => r = .returned (.int .i64 (133)) ∧ Below w.heap.size w w' := by
  obtain ⟨w1, hw1⟩ : ∃ w1, w.alloc (.cells #[.int .i64 Q.k, .string Q.t, .string Q.f, .int .i64 Q.v.k, .string Q.v.s, .int .i64 Q.v.vk, .bool Q.v.vb, .int .i64 Q.v.vn, .string Q.v.vs, .slice none 0 0, .slice none 0 0, .slice Q.v.kp Q.v.n Q.v.kc, .slice Q.v.np Q.v.m Q.v.nc, .slice Q.nmp Q.nml Q.nmc, .slice Q.exp Q.exl Q.exc, .int .i64 Q.wh.k, .string Q.wh.s, .int .i64 Q.wh.vk, .bool Q.wh.vb, .int .i64 Q.wh.vn, .string Q.wh.vs, .slice none 0 0, .slice none 0 0, .slice Q.wh.kp Q.wh.n Q.wh.kc, .slice Q.wh.np Q.wh.m Q.wh.nc, .slice Q.clp Q.cll Q.clc, .bool Q.cn, .bool Q.hi, .string Q.od, .bool Q.de, .int .i64 Q.li] 30) = w1 := ⟨_, rfl⟩
  have hb1 : Below w.heap.size w w1 := by rw [← hw1]; exact (Below.refl _ w).alloc (Nat.le_refl _) _
  have r1 : w1.heap[w.heap.size]? = some (.cells (qrA Q) 30 (0, 0)) := by rw [← hw1]; exact heap_alloc_new _ _
  have x0 : w1.cell? ⟨w.heap.size, 0, none⟩ = some (.int .i64 1) := (cell_of_row w1 _ 0 _ _ _ r1).trans (by rw [← hk]; rfl)
  have x1 : w1.cell? ⟨w.heap.size, 1, none⟩ = some (.string Q.t) := cell_of_row w1 _ 1 _ _ _ r1
  have x2 : w1.cell? ⟨w.heap.size, 2, none⟩ = some (.string Q.f) := cell_of_row w1 _ 2 _ _ _ r1
  have hl := hlk w1 hb1
  have ke := errorIf_any true 133 w1
  simp only [if_true] at ke
  have HB : Hid (Below w.heap.size w w1 ∧ w1.heap[w.heap.size]? = some (.cells (qrA Q) 30 (0, 0))) := ⟨hb1, r1⟩
  unfold qrA
  clear hb1 r1 hlk hk
  go_enter Tryz.func12, Tryz.ntmps12
  go_wp2_with fail
  refine ke.mono ?_
  rintro q w3 ⟨rfl, hw3⟩
  have hw3' := hw3.symm
  clear hw3
  subst hw3'
  clear ke
  go_wp2
  go_ret
  exact ⟨rfl, HB.out.1⟩
set_option maxRecDepth 100000 in
set_option maxHeartbeats 8000000 in
theorem stmt_table_false (Q : QR) (w : World) (mv : Value) (fp : Option Addr) (fn fc : Nat) (hlk : ∀ W, Below w.heap.size w W → (Instr.lookup 48 mv (.string Q.t) true).run Tryz.prog W = .ok (.tuple #[.slice fp fn fc, .bool false]) W) (hk : Q.k = 1) :
    Calls Tryz.prog 12 #[mv, .agg (qrA Q)] w fun r w' => r = .returned (.int .i64 (0)) ∧ Below w.heap.size w w' := by
  obtain ⟨w1, hw1⟩ : ∃ w1, w.alloc (.cells #[.int .i64 Q.k, .string Q.t, .string Q.f, .int .i64 Q.v.k, .string Q.v.s, .int .i64 Q.v.vk, .bool Q.v.vb, .int .i64 Q.v.vn, .string Q.v.vs, .slice none 0 0, .slice none 0 0, .slice Q.v.kp Q.v.n Q.v.kc, .slice Q.v.np Q.v.m Q.v.nc, .slice Q.nmp Q.nml Q.nmc, .slice Q.exp Q.exl Q.exc, .int .i64 Q.wh.k, .string Q.wh.s, .int .i64 Q.wh.vk, .bool Q.wh.vb, .int .i64 Q.wh.vn, .string Q.wh.vs, .slice none 0 0, .slice none 0 0, .slice Q.wh.kp Q.wh.n Q.wh.kc, .slice Q.wh.np Q.wh.m Q.wh.nc, .slice Q.clp Q.cll Q.clc, .bool Q.cn, .bool Q.hi, .string Q.od, .bool Q.de, .int .i64 Q.li] 30) = w1 := ⟨_, rfl⟩
  have hb1 : Below w.heap.size w w1 := by rw [← hw1]; exact (Below.refl _ w).alloc (Nat.le_refl _) _
  have r1 : w1.heap[w.heap.size]? = some (.cells (qrA Q) 30 (0, 0)) := by rw [← hw1]; exact heap_alloc_new _ _
  have x0 : w1.cell? ⟨w.heap.size, 0, none⟩ = some (.int .i64 1) := (cell_of_row w1 _ 0 _ _ _ r1).trans (by rw [← hk]; rfl)
  have x1 : w1.cell? ⟨w.heap.size, 1, none⟩ = some (.string Q.t) := cell_of_row w1 _ 1 _ _ _ r1
  have x2 : w1.cell? ⟨w.heap.size, 2, none⟩ = some (.string Q.f) := cell_of_row w1 _ 2 _ _ _ r1
  have hl := hlk w1 hb1
  have ke := errorIf_any false 133 w1
  simp only [Bool.false_eq_true, reduceIte] at ke
  have HB : Hid (Below w.heap.size w w1 ∧ w1.heap[w.heap.size]? = some (.cells (qrA Q) 30 (0, 0))) := ⟨hb1, r1⟩
  unfold qrA
  clear hb1 r1 hlk hk
  go_enter Tryz.func12, Tryz.ntmps12
  go_wp2_with fail
  refine ke.mono ?_
  rintro q w3 ⟨rfl, hw3⟩
  have hw3' := hw3.symm
  clear hw3
  subst hw3'
  clear ke
  go_wp2
  go_ret
  exact ⟨rfl, HB.out.1⟩
set_option maxRecDepth 100000 in
set_option maxHeartbeats 8000000 in
theorem stmt_none (Q : QR) (w : World) (mv : Value) (fp : Option Addr) (fn fc : Nat) (hlk : ∀ W, Below w.heap.size w W → (Instr.lookup 48 mv (.string Q.t) true).run Tryz.prog W = .ok (.tuple #[.slice fp fn fc, .bool false]) W) (hk : ¬ Q.k = 1) :
    Calls Tryz.prog 12 #[mv, .agg (qrA Q)] w fun r w' => r = .returned (.int .i64 (130)) ∧ Below w.heap.size w w' := by
  obtain ⟨w1, hw1⟩ : ∃ w1, w.alloc (.cells #[.int .i64 Q.k, .string Q.t, .string Q.f, .int .i64 Q.v.k, .string Q.v.s, .int .i64 Q.v.vk, .bool Q.v.vb, .int .i64 Q.v.vn, .string Q.v.vs, .slice none 0 0, .slice none 0 0, .slice Q.v.kp Q.v.n Q.v.kc, .slice Q.v.np Q.v.m Q.v.nc, .slice Q.nmp Q.nml Q.nmc, .slice Q.exp Q.exl Q.exc, .int .i64 Q.wh.k, .string Q.wh.s, .int .i64 Q.wh.vk, .bool Q.wh.vb, .int .i64 Q.wh.vn, .string Q.wh.vs, .slice none 0 0, .slice none 0 0, .slice Q.wh.kp Q.wh.n Q.wh.kc, .slice Q.wh.np Q.wh.m Q.wh.nc, .slice Q.clp Q.cll Q.clc, .bool Q.cn, .bool Q.hi, .string Q.od, .bool Q.de, .int .i64 Q.li] 30) = w1 := ⟨_, rfl⟩
  have hb1 : Below w.heap.size w w1 := by rw [← hw1]; exact (Below.refl _ w).alloc (Nat.le_refl _) _
  have r1 : w1.heap[w.heap.size]? = some (.cells (qrA Q) 30 (0, 0)) := by rw [← hw1]; exact heap_alloc_new _ _
  have x0 : w1.cell? ⟨w.heap.size, 0, none⟩ = some (.int .i64 Q.k) := (cell_of_row w1 _ 0 _ _ _ r1).trans (rfl)
  have x1 : w1.cell? ⟨w.heap.size, 1, none⟩ = some (.string Q.t) := cell_of_row w1 _ 1 _ _ _ r1
  have x2 : w1.cell? ⟨w.heap.size, 2, none⟩ = some (.string Q.f) := cell_of_row w1 _ 2 _ _ _ r1
  have hl := hlk w1 hb1
  have HB : Hid (Below w.heap.size w w1 ∧ w1.heap[w.heap.size]? = some (.cells (qrA Q) 30 (0, 0))) := ⟨hb1, r1⟩
  unfold qrA
  clear hb1 r1 hlk
  go_enter Tryz.func12, Tryz.ntmps12
  go_wp2
  go_ret
  exact ⟨rfl, HB.out.1⟩
set_option maxRecDepth 100000 in
set_option maxHeartbeats 8000000 in
theorem stmt_delete (Q : QR) (w : World) (mv : Value) (fp : Option Addr) (fn fc : Nat) (hlk : ∀ W, Below w.heap.size w W → (Instr.lookup 48 mv (.string Q.t) true).run Tryz.prog W = .ok (.tuple #[.slice fp fn fc, .bool true]) W) (hk : Q.k = 5) {X : Int} (kw : ∀ W, Below w.heap.size w W → Calls Tryz.prog 29 #[rowX Q.wh] W fun r w' => r = .returned (.int .i64 X) ∧ Below W.heap.size W w') :
    Calls Tryz.prog 12 #[mv, .agg (qrA Q)] w fun r w' => r = .returned (.int .i64 (X)) ∧ Below w.heap.size w w' := by
  obtain ⟨w1, hw1⟩ : ∃ w1, w.alloc (.cells #[.int .i64 Q.k, .string Q.t, .string Q.f, .int .i64 Q.v.k, .string Q.v.s, .int .i64 Q.v.vk, .bool Q.v.vb, .int .i64 Q.v.vn, .string Q.v.vs, .slice none 0 0, .slice none 0 0, .slice Q.v.kp Q.v.n Q.v.kc, .slice Q.v.np Q.v.m Q.v.nc, .slice Q.nmp Q.nml Q.nmc, .slice Q.exp Q.exl Q.exc, .int .i64 Q.wh.k, .string Q.wh.s, .int .i64 Q.wh.vk, .bool Q.wh.vb, .int .i64 Q.wh.vn, .string Q.wh.vs, .slice none 0 0, .slice none 0 0, .slice Q.wh.kp Q.wh.n Q.wh.kc, .slice Q.wh.np Q.wh.m Q.wh.nc, .slice Q.clp Q.cll Q.clc, .bool Q.cn, .bool Q.hi, .string Q.od, .bool Q.de, .int .i64 Q.li] 30) = w1 := ⟨_, rfl⟩
  have hb1 : Below w.heap.size w w1 := by rw [← hw1]; exact (Below.refl _ w).alloc (Nat.le_refl _) _
  have r1 : w1.heap[w.heap.size]? = some (.cells (qrA Q) 30 (0, 0)) := by rw [← hw1]; exact heap_alloc_new _ _
  have x0 : w1.cell? ⟨w.heap.size, 0, none⟩ = some (.int .i64 5) := (cell_of_row w1 _ 0 _ _ _ r1).trans (by rw [← hk]; rfl)
  have x1 : w1.cell? ⟨w.heap.size, 1, none⟩ = some (.string Q.t) := cell_of_row w1 _ 1 _ _ _ r1
  have x2 : w1.cell? ⟨w.heap.size, 2, none⟩ = some (.string Q.f) := cell_of_row w1 _ 2 _ _ _ r1
  have hl := hlk w1 hb1
  have k1 := kw w1 hb1
  unfold rowX at k1
  have HR : Hid (w1.rangeAt w.heap.size 15 (arrX Q.wh).toList) := rng_wh r1
  clear kw
  have HB : Hid (Below w.heap.size w w1 ∧ w1.heap[w.heap.size]? = some (.cells (qrA Q) 30 (0, 0))) := ⟨hb1, r1⟩
  unfold qrA
  clear hb1 r1 hlk hk
  go_enter Tryz.func12, Tryz.ntmps12
  go_wp2_with (first | (refine wpList_load_mid rfl 28 (.tmp 41) rfl w.heap.size 15 rfl (arrX Q.wh).toList _ HR.out Tryz.underlying28 rfl (i28x Q.wh) ?_; simp only [Act.put, List.setIfInBounds_toArray, List.set_cons_zero, List.set_cons_succ, Array.toArray_toList]; unfold arrX) | fail)
  refine k1.mono ?_
  rintro q w2 ⟨rfl, hb2⟩
  have H2 : Hid (Below w.heap.size w w2) := HB.out.1.trans (hb2.mono HB.out.1.size)
  clear k1 hb2
  go_wp2
  go_ret
  exact ⟨rfl, H2.out⟩
set_option maxRecDepth 100000 in
set_option maxHeartbeats 8000000 in
theorem stmt_insert (Q : QR) (w : World) (mv : Value) (fp : Option Addr) (fn fc : Nat) (hlk : ∀ W, Below w.heap.size w W → (Instr.lookup 48 mv (.string Q.t) true).run Tryz.prog W = .ok (.tuple #[.slice fp fn fc, .bool true]) W) (hk : Q.k = 3) {X : Int} (kw : ∀ W, Below w.heap.size w W → Calls Tryz.prog 27 #[rowX Q.v] W fun r w' => r = .returned (.int .i64 X) ∧ Below W.heap.size W w') :
    Calls Tryz.prog 12 #[mv, .agg (qrA Q)] w fun r w' => r = .returned (.int .i64 (X)) ∧ Below w.heap.size w w' := by
  obtain ⟨w1, hw1⟩ : ∃ w1, w.alloc (.cells #[.int .i64 Q.k, .string Q.t, .string Q.f, .int .i64 Q.v.k, .string Q.v.s, .int .i64 Q.v.vk, .bool Q.v.vb, .int .i64 Q.v.vn, .string Q.v.vs, .slice none 0 0, .slice none 0 0, .slice Q.v.kp Q.v.n Q.v.kc, .slice Q.v.np Q.v.m Q.v.nc, .slice Q.nmp Q.nml Q.nmc, .slice Q.exp Q.exl Q.exc, .int .i64 Q.wh.k, .string Q.wh.s, .int .i64 Q.wh.vk, .bool Q.wh.vb, .int .i64 Q.wh.vn, .string Q.wh.vs, .slice none 0 0, .slice none 0 0, .slice Q.wh.kp Q.wh.n Q.wh.kc, .slice Q.wh.np Q.wh.m Q.wh.nc, .slice Q.clp Q.cll Q.clc, .bool Q.cn, .bool Q.hi, .string Q.od, .bool Q.de, .int .i64 Q.li] 30) = w1 := ⟨_, rfl⟩
  have hb1 : Below w.heap.size w w1 := by rw [← hw1]; exact (Below.refl _ w).alloc (Nat.le_refl _) _
  have r1 : w1.heap[w.heap.size]? = some (.cells (qrA Q) 30 (0, 0)) := by rw [← hw1]; exact heap_alloc_new _ _
  have x0 : w1.cell? ⟨w.heap.size, 0, none⟩ = some (.int .i64 3) := (cell_of_row w1 _ 0 _ _ _ r1).trans (by rw [← hk]; rfl)
  have x1 : w1.cell? ⟨w.heap.size, 1, none⟩ = some (.string Q.t) := cell_of_row w1 _ 1 _ _ _ r1
  have x2 : w1.cell? ⟨w.heap.size, 2, none⟩ = some (.string Q.f) := cell_of_row w1 _ 2 _ _ _ r1
  have hl := hlk w1 hb1
  have k1 := kw w1 hb1
  unfold rowX at k1
  have HR : Hid (w1.rangeAt w.heap.size 3 (arrX Q.v).toList) := rng_v r1
  clear kw
  have HB : Hid (Below w.heap.size w w1 ∧ w1.heap[w.heap.size]? = some (.cells (qrA Q) 30 (0, 0))) := ⟨hb1, r1⟩
  unfold qrA
  clear hb1 r1 hlk hk
  go_enter Tryz.func12, Tryz.ntmps12
  go_wp2_with (first | (refine wpList_load_mid rfl 28 (.tmp 32) rfl w.heap.size 3 rfl (arrX Q.v).toList _ HR.out Tryz.underlying28 rfl (i28x Q.v) ?_; simp only [Act.put, List.setIfInBounds_toArray, List.set_cons_zero, List.set_cons_succ, Array.toArray_toList]; unfold arrX) | fail)
  refine k1.mono ?_
  rintro q w2 ⟨rfl, hb2⟩
  have H2 : Hid (Below w.heap.size w w2) := HB.out.1.trans (hb2.mono HB.out.1.size)
  clear k1 hb2
  go_wp2
  go_ret
  exact ⟨rfl, H2.out⟩
set_option maxRecDepth 100000 in
set_option maxHeartbeats 8000000 in
theorem stmt_update (Q : QR) (w : World) (mv : Value) (fp : Option Addr) (fn fc : Nat) (hlk : ∀ W, Below w.heap.size w W → (Instr.lookup 48 mv (.string Q.t) true).run Tryz.prog W = .ok (.tuple #[.slice fp fn fc, .bool true]) W) (hk : Q.k = 4) {X : Int} (kw : ∀ W, Below w.heap.size w W → Calls Tryz.prog 28 #[.agg (qrA Q)] W fun r w' => r = .returned (.int .i64 X) ∧ Below W.heap.size W w') :
    Calls Tryz.prog 12 #[mv, .agg (qrA Q)] w fun r w' => r = .returned (.int .i64 (X)) ∧ Below w.heap.size w w' := by
  obtain ⟨w1, hw1⟩ : ∃ w1, w.alloc (.cells #[.int .i64 Q.k, .string Q.t, .string Q.f, .int .i64 Q.v.k, .string Q.v.s, .int .i64 Q.v.vk, .bool Q.v.vb, .int .i64 Q.v.vn, .string Q.v.vs, .slice none 0 0, .slice none 0 0, .slice Q.v.kp Q.v.n Q.v.kc, .slice Q.v.np Q.v.m Q.v.nc, .slice Q.nmp Q.nml Q.nmc, .slice Q.exp Q.exl Q.exc, .int .i64 Q.wh.k, .string Q.wh.s, .int .i64 Q.wh.vk, .bool Q.wh.vb, .int .i64 Q.wh.vn, .string Q.wh.vs, .slice none 0 0, .slice none 0 0, .slice Q.wh.kp Q.wh.n Q.wh.kc, .slice Q.wh.np Q.wh.m Q.wh.nc, .slice Q.clp Q.cll Q.clc, .bool Q.cn, .bool Q.hi, .string Q.od, .bool Q.de, .int .i64 Q.li] 30) = w1 := ⟨_, rfl⟩
  have hb1 : Below w.heap.size w w1 := by rw [← hw1]; exact (Below.refl _ w).alloc (Nat.le_refl _) _
  have r1 : w1.heap[w.heap.size]? = some (.cells (qrA Q) 30 (0, 0)) := by rw [← hw1]; exact heap_alloc_new _ _
  have x0 : w1.cell? ⟨w.heap.size, 0, none⟩ = some (.int .i64 4) := (cell_of_row w1 _ 0 _ _ _ r1).trans (by rw [← hk]; rfl)
  have x1 : w1.cell? ⟨w.heap.size, 1, none⟩ = some (.string Q.t) := cell_of_row w1 _ 1 _ _ _ r1
  have x2 : w1.cell? ⟨w.heap.size, 2, none⟩ = some (.string Q.f) := cell_of_row w1 _ 2 _ _ _ r1
  have hl := hlk w1 hb1
  have k1 := kw w1 hb1
  unfold qrA at k1
  clear kw
  have HB : Hid (Below w.heap.size w w1 ∧ w1.heap[w.heap.size]? = some (.cells (qrA Q) 30 (0, 0))) := ⟨hb1, r1⟩
  unfold qrA
  clear hb1 r1 hlk hk
  go_enter Tryz.func12, Tryz.ntmps12
  go_wp2_with (first | (refine wpList_get rfl 30 (.tmp 3) rfl rfl HB.out.2 Tryz.underlying30 rfl info30 ?_; simp only [Act.put, List.setIfInBounds_toArray, List.set_cons_zero, List.set_cons_succ]; unfold qrA) | fail)
  refine k1.mono ?_
  rintro q w2 ⟨rfl, hb2⟩
  have H2 : Hid (Below w.heap.size w w2) := HB.out.1.trans (hb2.mono HB.out.1.size)
  clear k1 hb2
  go_wp2
  go_ret
  exact ⟨rfl, H2.out⟩
set_option maxRecDepth 100000 in
set_option maxHeartbeats 8000000 in
theorem stmt_select (Q : QR) (w : World) (mv : Value) (fp : Option Addr) (fn fc : Nat) (hlk : ∀ W, Below w.heap.size w W → (Instr.lookup 48 mv (.string Q.t) true).run Tryz.prog W = .ok (.tuple #[.slice fp fn fc, .bool true]) W) (hk : Q.k = 6) {X : Int} (kw : ∀ W, Below w.heap.size w W → Calls Tryz.prog 30 #[.agg (qrA Q)] W fun r w' => r = .returned (.int .i64 X) ∧ Below W.heap.size W w') :
    Calls Tryz.prog 12 #[mv, .agg (qrA Q)] w fun r w' => r = .returned (.int .i64 (X)) ∧ Below w.heap.size w w' := by
  obtain ⟨w1, hw1⟩ : ∃ w1, w.alloc (.cells #[.int .i64 Q.k, .string Q.t, .string Q.f, .int .i64 Q.v.k, .string Q.v.s, .int .i64 Q.v.vk, .bool Q.v.vb, .int .i64 Q.v.vn, .string Q.v.vs, .slice none 0 0, .slice none 0 0, .slice Q.v.kp Q.v.n Q.v.kc, .slice Q.v.np Q.v.m Q.v.nc, .slice Q.nmp Q.nml Q.nmc, .slice Q.exp Q.exl Q.exc, .int .i64 Q.wh.k, .string Q.wh.s, .int .i64 Q.wh.vk, .bool Q.wh.vb, .int .i64 Q.wh.vn, .string Q.wh.vs, .slice none 0 0, .slice none 0 0, .slice Q.wh.kp Q.wh.n Q.wh.kc, .slice Q.wh.np Q.wh.m Q.wh.nc, .slice Q.clp Q.cll Q.clc, .bool Q.cn, .bool Q.hi, .string Q.od, .bool Q.de, .int .i64 Q.li] 30) = w1 := ⟨_, rfl⟩
  have hb1 : Below w.heap.size w w1 := by rw [← hw1]; exact (Below.refl _ w).alloc (Nat.le_refl _) _
  have r1 : w1.heap[w.heap.size]? = some (.cells (qrA Q) 30 (0, 0)) := by rw [← hw1]; exact heap_alloc_new _ _
  have x0 : w1.cell? ⟨w.heap.size, 0, none⟩ = some (.int .i64 6) := (cell_of_row w1 _ 0 _ _ _ r1).trans (by rw [← hk]; rfl)
  have x1 : w1.cell? ⟨w.heap.size, 1, none⟩ = some (.string Q.t) := cell_of_row w1 _ 1 _ _ _ r1
  have x2 : w1.cell? ⟨w.heap.size, 2, none⟩ = some (.string Q.f) := cell_of_row w1 _ 2 _ _ _ r1
  have hl := hlk w1 hb1
  have k1 := kw w1 hb1
  unfold qrA at k1
  clear kw
  have HB : Hid (Below w.heap.size w w1 ∧ w1.heap[w.heap.size]? = some (.cells (qrA Q) 30 (0, 0))) := ⟨hb1, r1⟩
  unfold qrA
  clear hb1 r1 hlk hk
  go_enter Tryz.func12, Tryz.ntmps12
  go_wp2_with (first | (refine wpList_get rfl 30 (.tmp 3) rfl rfl HB.out.2 Tryz.underlying30 rfl info30 ?_; simp only [Act.put, List.setIfInBounds_toArray, List.set_cons_zero, List.set_cons_succ]; unfold qrA) | fail)
  refine k1.mono ?_
  rintro q w2 ⟨rfl, hb2⟩
  have H2 : Hid (Below w.heap.size w w2) := HB.out.1.trans (hb2.mono HB.out.1.size)
  clear k1 hb2
  go_wp2
  go_ret
  exact ⟨rfl, H2.out⟩
end Go.Proofs.YtcniebkehekliaaGreatDoor
