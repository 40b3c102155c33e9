/- A document's row (Row): its cells; a row with lists of its own (own). A nil table: Get; the documents of no numbers (these). A new table (New); Drop where no documents are. A table without documents: how many (Len). -/
import Derived.Test.YtniljoojoafiaaaGreatDoorXad
import Derived.Test.YtniljoojoafiaaaGreatDoorVCln
import Derived.Maps.OwnSet
namespace Go.Proofs.YtniljoojoafiaaaGreatDoor
open Go.RowKit Go.Shelf
attribute [local go_sem] Oper.semAt_some
def rwA (d v : Int) (t : V.Tr) (x : V.Ad) : Array Value := #[.int .u64 d, .int .u64 v, .int .i64 t.k, .bool t.b, .int .i64 t.n, .string t.s, .slice x.pa t.m x.pc, .slice x.na t.q x.nc]
def zeroW : Array Value := #[.int .u64 0, .int .u64 0, .int .i64 0, .bool false, .int .i64 0, .string ⟨#[]⟩, .slice none 0 0, .slice none 0 0]
theorem info34 : (Tryz.prog.info? 34).map (·.size) = some 6 := by kernel_rfl
theorem info45 : (Tryz.prog.info? 45).map (·.size) = some 8 := by kernel_rfl
theorem rng_row {w : World} {z : Nat} {d v : Int} {t : V.Tr} {x : V.Ad} (h : w.heap[z]? = some (.cells (rwA d v t x) 45 (0, 0))) : w.rangeAt z 2 (t.cs x) := fun j u hu => by
  have hj : j < 6 := by have := (List.getElem?_eq_some_iff.1 hu).1; simpa [V.Tr.cs] using this
  rw [cell_of_row w _ _ _ _ _ h]
  obtain rfl | rfl | rfl | rfl | rfl | rfl : j = 0 ∨ j = 1 ∨ j = 2 ∨ j = 3 ∨ j = 4 ∨ j = 5 := by omega
  all_goals simpa [V.Tr.cs, rwA] using hu
set_option maxRecDepth 100000 in
set_option maxHeartbeats 8000000 in
theorem own_any {w : World} (d v : Int) (t : V.Tr) (x : V.Ad) (hL : V.Lies w.heap.size w t x) (hs : V.slimq t) :
    Calls Tryz.prog 33 #[.agg (rwA d v t x)] w fun e w' => ∃ A, e = .returned (.agg (rwA d v t A)) ∧ V.LiesS (fun k => w.heap.size < k) w' t A ∧ Below w.heap.size w w' := by
  obtain ⟨w1, hw1⟩ : ∃ w1, (w.alloc (.cells #[.int .u64 d, .int .u64 v, .int .i64 t.k, .bool t.b, .int .i64 t.n, .string t.s, .slice x.pa t.m x.pc, .slice x.na t.q x.nc] 45)).alloc (.cells #[.int .u64 0, .int .u64 0, .int .i64 0, .bool false, .int .i64 0, .string ⟨#[]⟩, .slice none 0 0, .slice none 0 0] 45) = w1 := ⟨_, rfl⟩
  have hb1 : Below w.heap.size w w1 := by rw [← hw1]; exact ((Below.refl _ w).alloc (Nat.le_refl _) _).alloc (by simp) _
  have s1 : w1.heap.size = w.heap.size + 2 := by rw [← hw1]; simp
  have r0 : w1.heap[w.heap.size]? = some (.cells (rwA d v t x) 45 (0, 0)) := by
    rw [← hw1, Below.heap_alloc _ _ _ (by simp)]; exact heap_alloc_new _ _
  have r1 : w1.heap[w.heap.size + 1]? = some (.cells zeroW 45 (0, 0)) := by
    rw [← hw1]
    have e := heap_alloc_new (w.alloc (.cells #[.int .u64 d, .int .u64 v, .int .i64 t.k, .bool t.b, .int .i64 t.n, .string t.s, .slice x.pa t.m x.pc, .slice x.na t.q x.nc] 45)) (.cells #[.int .u64 0, .int .u64 0, .int .i64 0, .bool false, .int .i64 0, .string ⟨#[]⟩, .slice none 0 0, .slice none 0 0] 45)
    have e2 : (w.alloc (.cells #[.int .u64 d, .int .u64 v, .int .i64 t.k, .bool t.b, .int .i64 t.n, .string t.s, .slice x.pa t.m x.pc, .slice x.na t.q x.nc] 45)).heap.size = w.heap.size + 1 := by simp
    rw [e2] at e
    exact e
  have kc := V.clone_all t hs w.heap.size w1 x (hL.later hb1) hb1.size
  have HH : Hid (Below w.heap.size w w1 ∧ w1.heap.size = w.heap.size + 2 ∧ w1.heap[w.heap.size]? = some (.cells (rwA d v t x) 45 (0, 0)) ∧ w1.heap[w.heap.size + 1]? = some (.cells zeroW 45 (0, 0)) ∧ w1.rangeAt w.heap.size 2 (t.cs x)) := ⟨hb1, s1, r0, r1, rng_row r0⟩
  unfold rwA
  unfold V.Tr.val at kc
  clear hb1 s1 r0 r1 hL hs
  go_enter Tryz.func33, Tryz.ntmps33
  go_wp2_with (first | (refine wpList_load_mid rfl 34 (.tmp 3) rfl w.heap.size 2 rfl (t.cs x) _ HH.out.2.2.2.2 Tryz.underlying34 rfl info34 ?_; simp only [Act.put, List.setIfInBounds_toArray, List.set_cons_zero, List.set_cons_succ]; unfold V.Tr.cs) | fail)
  refine kc.mono ?_
  rintro q w2 ⟨A, rfl, hA, hb2⟩
  have s2 := hb2.size
  have hs1 := HH.out.2.1
  have q0 := (hb2.block _ (by omega)).trans HH.out.2.2.1
  have q1 := (hb2.block _ (by omega)).trans HH.out.2.2.2.1
  obtain ⟨w3, hw3⟩ : ∃ w3, w2.setCells w.heap.size 2 (t.cs A) = w3 := ⟨_, rfl⟩
  have r3 : w3.heap[w.heap.size]? = some (.cells (rwA d v t A) 45 (0, 0)) := by
    rw [← hw3, heap_setCells_full w.heap.size 45 (t.cs A) 2 w2 _ q0 rfl]
    rfl
  have q3 : w3.heap[w.heap.size + 1]? = some (.cells zeroW 45 (0, 0)) := by
    rw [← hw3, heap_setCells_else _ _ (by omega)]
    exact q1
  have H3 : Hid (w3.heap[w.heap.size]? = some (.cells (rwA d v t A) 45 (0, 0)) ∧ w3.heap[w.heap.size + 1]? = some (.cells zeroW 45 (0, 0)) ∧ w2.there w.heap.size 2 6 ∧ Below w.heap.size w w3 ∧ V.LiesS (fun k => w1.heap.size ≤ k ∧ k < w2.heap.size) w2 t A) := by
    refine ⟨r3, q3, fun j hj => ⟨?_, frozen_of_row w2 _ _ _ _ q0⟩, ?_, hA⟩
    · rw [cell_of_row w2 _ _ _ _ _ q0]
      simp [rwA]
      omega
    · rw [← hw3]
      have a1 := HH.out.1.trans (hb2.mono HH.out.1.size)
      exact below_setCells' (Nat.le_refl _) _ _ _ a1
  clear kc hb2 hA q0 q1 r3 q3 hw1
  have HV : Hid (#[Value.int .i64 t.k, .bool t.b, .int .i64 t.n, .string t.s, .slice A.pa t.m A.pc, .slice A.na t.q A.nc].toList = t.cs A) := by
    have e : #[Value.int .i64 t.k, .bool t.b, .int .i64 t.n, .string t.s, .slice A.pa t.m A.pc, .slice A.na t.q A.nc].toList = t.cs A := rfl
    exact e
  go_wp2_with (first
    | (refine wpList_store_mid rfl 34 (.tmp 6) (.tmp 5) rfl w.heap.size 2 #[.int .i64 t.k, .bool t.b, .int .i64 t.n, .string t.s, .slice A.pa t.m A.pc, .slice A.na t.q A.nc] rfl rfl H3.out.2.2.1 info34 (by simp [Value.oneCell']) ?_; rw [HV.out, hw3])
    | (refine wpList_get rfl 45 (.tmp 1) rfl rfl H3.out.1 Tryz.underlying45 rfl info45 ?_; simp only [Act.put, List.setIfInBounds_toArray, List.set_cons_zero, List.set_cons_succ])
    | (refine wpList_put rfl 45 (.tmp 2) (.tmp 7) rfl rfl rfl rfl H3.out.2.1 rfl info45 (by simp [rwA, Value.oneCell']) ?_)
    | fail)
  refine bodyPost_ret (results_cell_row Tryz.results33 _ _ (w.heap.size + 1) 45 _ (0, 0) _ rfl (put_row _ H3.out.2.1 rfl) Tryz.underlying45 rfl info45) rfl ⟨A, rfl, ?_, put_below H3.out.2.2.2.1 _ (Nat.le_succ _) _⟩
  refine V.LiesS.up (fun k (hk : w1.heap.size ≤ k ∧ k < w2.heap.size) => (by omega : w.heap.size < k)) (V.LiesS.kept (fun k hk => ?_) H3.out.2.2.2.2)
  rw [put_other (by omega), ← hw3, heap_setCells_else _ _ (by omega)]
end Go.Proofs.YtniljoojoafiaaaGreatDoor
namespace Go.Proofs.YtniljoojoafiaaaGreatDoor
open Go.RowKit Go.Shelf
attribute [local go_sem] Oper.semAt_some
set_option maxRecDepth 100000 in
theorem tget_nil (d : Int) (w : World) : Calls Tryz.prog 20 #[.pointer none, .int .u64 d] w fun e w' => e = .returned (.tuple #[.agg zeroW, .bool false]) ∧ Below w.heap.size w w' := by
  go_enter Tryz.func20, Tryz.ntmps20
  go_wp2_with fail
  have hb := (Below.refl w.heap.size w).alloc (Nat.le_refl _) (.cells #[.int .u64 0, .int .u64 0, .int .i64 0, .bool false, .int .i64 0, .string ⟨#[]⟩, .slice none 0 0, .slice none 0 0] 45)
  have hr := heap_alloc_new w (.cells #[.int .u64 0, .int .u64 0, .int .i64 0, .bool false, .int .i64 0, .string ⟨#[]⟩, .slice none 0 0, .slice none 0 0] 45)
  obtain ⟨wf, hwf⟩ : ∃ wf, w.alloc (.cells #[.int .u64 0, .int .u64 0, .int .i64 0, .bool false, .int .i64 0, .string ⟨#[]⟩, .slice none 0 0, .slice none 0 0] 45) = wf := ⟨_, rfl⟩
  rw [hwf] at hb hr ⊢
  clear hwf
  have o0 := cell_of_row wf _ 0 _ _ _ hr
  have o1 := cell_of_row wf _ 1 _ _ _ hr
  have o2 := cell_of_row wf _ 2 _ _ _ hr
  have o3 := cell_of_row wf _ 3 _ _ _ hr
  have o4 := cell_of_row wf _ 4 _ _ _ hr
  have o5 := cell_of_row wf _ 5 _ _ _ hr
  have o6 := cell_of_row wf _ 6 _ _ _ hr
  have o7 := cell_of_row wf _ 7 _ _ _ hr
  exact bodyPost_ret (v := .tuple #[.agg zeroW, .bool false]) (by simp [results, Tryz.results20, go_sem, zeroW, o0, o1, o2, o3, o4, o5, o6, o7]) rfl ⟨rfl, hb⟩
def NoneF (v : Value) (w : World) : Prop := ∃ g a, v = .func (.func 67) #[] #[.pointer (some ⟨g, 0, none⟩)] ∧ w.heap[g]? = some (.cells #[.slice a 0 0] 130 (0, 0))
theorem mk0 (w : World) : (Instr.makeSlice 130 (.int .i64 0) (.int .i64 0)).run Tryz.prog w = .ok (.slice (some ⟨w.heap.size, 0, none⟩) 0 0) (w.alloc (.cells #[] 45)) := by kernel_rfl
set_option maxRecDepth 100000 in
theorem these_none (p : Option Addr) (w : World) : Calls Tryz.prog 42 #[.pointer p, .slice none 0 0] w fun e w' => ∃ g a, e = .returned (.func (.func 67) #[] #[.pointer (some ⟨g, 0, none⟩)]) ∧ w'.heap[g]? = some (.cells #[.slice a 0 0] 130 (0, 0)) ∧ Below w.heap.size w w' := by
  have hmk := mk0 w
  go_enter Tryz.func42, Tryz.ntmps42
  go_wp2
  go_loopw [13] (fun c13 wr => c13 = .int .i64 0 ∧ (∃ a, wr.heap[w.heap.size + 1]? = some (.cells #[.slice a 0 0] 130 (0, 0))) ∧ Below w.heap.size w wr) (fun _ _ => 0)
  case atStart =>
    refine ⟨rfl, ⟨some ⟨w.heap.size, 0, none⟩, ?_⟩, ((Below.refl _ w).alloc (Nat.le_refl _) _).alloc (by simp) _⟩
    have e := heap_alloc_new (w.alloc (.cells #[] 45)) (.cells #[.slice (some ⟨w.heap.size, 0, none⟩) 0 0] 130)
    have e2 : (w.alloc (.cells #[] 45)).heap.size = w.heap.size + 1 := by simp
    rw [e2] at e
    exact e
  case round =>
    obtain ⟨rfl, ⟨a, ha⟩, hb⟩ := hrel
    go_wp2
    go_ret
    exact ⟨_, a, rfl, ha, hb⟩
set_option maxRecDepth 100000 in
theorem all_nil (w : World) : Calls Tryz.prog 24 #[.pointer none] w fun e w' => ∃ v, e = .returned v ∧ NoneF v w' ∧ Below w.heap.size w w' := by
  go_enter Tryz.func24, Tryz.ntmps24
  go_wp2_with fail
  refine (these_none none w).mono ?_
  rintro e w1 ⟨g, a, rfl, hg, hb⟩
  go_wp2
  go_ret
  exact ⟨_, rfl, ⟨g, a, rfl, hg⟩, hb⟩
set_option maxRecDepth 100000 in
theorem trange_nil (f a b : ByteArray) (w : World) : Calls Tryz.prog 25 #[.pointer none, .string f, .agg #[.string a, .string b]] w fun e w' => ∃ v, e = .returned v ∧ NoneF v w' ∧ Below w.heap.size w w' := by
  have hb1 := (Below.refl w.heap.size w).alloc (Nat.le_refl _) (.cells #[.string a, .string b] 24)
  go_enter Tryz.func25, Tryz.ntmps25
  go_wp2_with fail
  refine (these_none none _).mono ?_
  rintro e w1 ⟨g, l, rfl, hg, hb⟩
  have hbb : Below w.heap.size w w1 := hb1.trans (hb.mono hb1.size)
  clear hb hb1
  go_wp2
  go_ret
  exact ⟨_, rfl, ⟨g, l, rfl, hg⟩, hbb⟩
/- Going over none: nothing is asked, nothing changes. -/
set_option maxRecDepth 100000 in
theorem over_none (y : Value) (g : Nat) (l : Option Addr) (w : World) (hg : w.heap[g]? = some (.cells #[.slice l 0 0] 130 (0, 0))) :
    Calls Tryz.prog 67 #[y, .pointer (some ⟨g, 0, none⟩)] w fun e w' => e = .returned (.tuple #[]) ∧ w' = w := by
  have hc := cell_of_row w _ 0 _ _ _ hg
  go_enter Tryz.func67, Tryz.ntmps67
  go_wp2
  go_loopw [7] (fun c7 wr => c7 = .int .i64 0 ∧ wr = w) (fun _ _ => 0)
  case atStart => exact ⟨rfl, rfl⟩
  case round =>
    obtain ⟨rfl, rfl⟩ := hrel
    go_wp2
    exact bodyPost_end (results_none Tryz.results67 _ _ _) rfl ⟨rfl, rfl⟩
end Go.Proofs.YtniljoojoafiaaaGreatDoor
namespace Go.Proofs.YtniljoojoafiaaaGreatDoor
open Go.RowKit Go.Shelf
attribute [local go_sem] Oper.semAt_some
set_option maxRecDepth 100000 in
theorem new_table (w : World) : Calls Tryz.prog 7 #[] w fun e w' => e = .returned (.pointer (some ⟨w.heap.size, 0, none⟩)) ∧ w'.heap[w.heap.size]? = some (.cells #[.map none, .map none, .bool false] 75 (0, 0)) ∧ Below w.heap.size w w' := by
  go_enter Tryz.func7, Tryz.ntmps7
  go_wp2
  go_ret
  exact ⟨rfl, heap_alloc_new _ _, (Below.refl _ w).alloc (Nat.le_refl _) _⟩
theorem wfu64 {d : Int} (h : 0 ≤ d ∧ d < 18446744073709551616) : (Lit.int .u64 d).wf = true := by
  have a1 : IntKind.u64.min = 0 := by decide
  have a2 : IntKind.u64.max = 18446744073709551615 := by decide
  simp only [Lit.wf]
  simp
  omega
theorem keyed31 : Maps.Keyed Tryz.prog 31 := Maps.int_keyed Tryz.underlying31
theorem zero45 (w : World) : (zeroValue 45).run Tryz.prog w = .ok (.agg zeroW) w := by kernel_rfl
theorem key31 {d : Int} (h : 0 ≤ d ∧ d < 18446744073709551616) : keyOf Tryz.prog 31 (.int .u64 d) = some (.int .u64 d) := Maps.keyOf_int_mk Tryz.underlying31 (wfu64 h)
theorem look_none {d : Int} (h : 0 ≤ d ∧ d < 18446744073709551616) (w : World) : (Instr.lookup 72 (.map none) (.int .u64 d) true).run Tryz.prog w = .ok (.tuple #[.agg zeroW, .bool false]) w :=
  Maps.look_nil true keyed31 Tryz.underlying72 (zero45 w) (key31 h)
set_option maxRecDepth 100000 in
set_option maxHeartbeats 1000000 in
theorem drop_none {w : World} (b : Nat) (x y : Value) (d : Int) (h : 0 ≤ d ∧ d < 18446744073709551616) (hr : w.heap[b]? = some (.cells #[.map none, x, y] 75 (0, 0))) :
    Calls Tryz.prog 9 #[.pointer (some ⟨b, 0, none⟩), .int .u64 d] w fun e w' => e = .returned (.bool false) ∧ Below w.heap.size w w' := by
  have c0 := cell_of_row w _ 0 _ _ _ hr
  have hl := look_none h
  unfold zeroW at hl
  have hb := (Below.refl w.heap.size w).alloc (Nat.le_refl _) (.cells #[.int .u64 0, .int .u64 0, .int .i64 0, .bool false, .int .i64 0, .string ⟨#[]⟩, .slice none 0 0, .slice none 0 0] 45)
  go_enter Tryz.func9, Tryz.ntmps9
  go_wp2
  go_ret
  exact ⟨rfl, hb⟩
end Go.Proofs.YtniljoojoafiaaaGreatDoor
namespace Go.Proofs.YtniljoojoafiaaaGreatDoor
open Go.RowKit Go.Shelf
attribute [local go_sem] Oper.semAt_some
set_option maxRecDepth 100000 in
theorem len_none {w : World} (b : Nat) (x y : Value) (hr : w.heap[b]? = some (.cells #[.map none, x, y] 75 (0, 0))) :
    Calls Tryz.prog 26 #[.pointer (some ⟨b, 0, none⟩)] w fun e w' => e = .returned (.int .i64 0) ∧ w' = w := by
  have c0 := cell_of_row w _ 0 _ _ _ hr
  have hlen : ∀ ty (wx : World), (Builtin.len_ #[72] ty #[.map none]).run Tryz.prog wx = .ok (.int .i64 0) wx := fun ty wx => Maps.len_nil Tryz.underlying72 ty
  go_enter Tryz.func26, Tryz.ntmps26
  go_wp2
  go_ret
  exact ⟨rfl, rfl⟩
end Go.Proofs.YtniljoojoafiaaaGreatDoor
