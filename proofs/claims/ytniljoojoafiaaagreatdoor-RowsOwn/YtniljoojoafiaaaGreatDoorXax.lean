/- A document with lists of its own (own): its list of parts may be written. Get of a table with one document. A value as the document has it (Ref): the same tree, of any value that has not too many parts. -/
import Derived.Test.YtniljoojoafiaaaGreatDoorXai
import Derived.Test.YtniljoojoafiaaaGreatDoorVCl2
import Derived.Test.YtniljoojoafiaaaGreatDoorXas
import Derived.Test.YtniljoojoafiaaaGreatDoorXaq
namespace Go.Proofs.YtniljoojoafiaaaGreatDoor
open Go.RowKit Go.Shelf
attribute [local go_sem] Oper.semAt_some
theorem V.LiesS.part' {S : Nat → Prop} {w : World} {t : V.Tr} {x : V.Ad} (h : V.LiesS S w t x) (h0 : 0 < t.m) : ∃ b o, x.pa = some ⟨b, o, none⟩ ∧ S b ∧ ∃ A, V.At6 w b o (t.f 0) A ∧ V.LiesS S w (t.f 0) A := by
  cases h with
  | mk A hk hn hs hm hp hr hq =>
    obtain ⟨b, o, h1, h2, h3⟩ := hp h0
    have := h3 0 h0
    rw [Nat.zero_mul, Nat.add_zero] at this
    exact ⟨b, o, h1, h2, A 0, this, hr 0 h0⟩
set_option maxRecDepth 100000 in
set_option maxHeartbeats 8000000 in
theorem own_top {w : World} (d v : Int) (t : V.Tr) (x : V.Ad) (hL : V.Lies w.heap.size w t x) (hs : V.slimq t) :
    Calls Tryz.prog 33 #[.agg (rwA d v t x)] w fun e w' => ∃ A, e = .returned (.agg (rwA d v t A)) ∧ V.LiesS (fun k => w.heap.size < k) w' t A ∧ Below w.heap.size w w' ∧ (0 < t.m → ∃ z o cs, A.pa = some ⟨z, o, none⟩ ∧ w'.heap[z]? = some (.cells cs 34 (0, 0))) := by
  obtain ⟨w1, hw1⟩ : ∃ w1, (w.alloc (.cells #[.int .u64 d, .int .u64 v, .int .i64 t.k, .bool t.b, .int .i64 t.n, .string t.s, .slice x.pa t.m x.pc, .slice x.na t.q x.nc] 45)).alloc (.cells #[.int .u64 0, .int .u64 0, .int .i64 0, .bool false, .int .i64 0, .string ⟨#[]⟩, .slice none 0 0, .slice none 0 0] 45) = w1 := ⟨_, rfl⟩
  have hb1 : Below w.heap.size w w1 := by rw [← hw1]; exact ((Below.refl _ w).alloc (Nat.le_refl _) _).alloc (by simp) _
  have s1 : w1.heap.size = w.heap.size + 2 := by rw [← hw1]; simp
  have r0 : w1.heap[w.heap.size]? = some (.cells (rwA d v t x) 45 (0, 0)) := by
    rw [← hw1, Below.heap_alloc _ _ _ (by simp)]; exact heap_alloc_new _ _
  have r1 : w1.heap[w.heap.size + 1]? = some (.cells zeroW 45 (0, 0)) := by
    rw [← hw1]
    have e := heap_alloc_new (w.alloc (.cells #[.int .u64 d, .int .u64 v, .int .i64 t.k, .bool t.b, .int .i64 t.n, .string t.s, .slice x.pa t.m x.pc, .slice x.na t.q x.nc] 45)) (.cells #[.int .u64 0, .int .u64 0, .int .i64 0, .bool false, .int .i64 0, .string ⟨#[]⟩, .slice none 0 0, .slice none 0 0] 45)
    have e2 : (w.alloc (.cells #[.int .u64 d, .int .u64 v, .int .i64 t.k, .bool t.b, .int .i64 t.n, .string t.s, .slice x.pa t.m x.pc, .slice x.na t.q x.nc] 45)).heap.size = w.heap.size + 1 := by simp
    rw [e2] at e
    exact e
  have kc := V.clone_allT t hs w.heap.size w1 x (hL.later hb1) hb1.size
  have HH : Hid (Below w.heap.size w w1 ∧ w1.heap.size = w.heap.size + 2 ∧ w1.heap[w.heap.size]? = some (.cells (rwA d v t x) 45 (0, 0)) ∧ w1.heap[w.heap.size + 1]? = some (.cells zeroW 45 (0, 0)) ∧ w1.rangeAt w.heap.size 2 (t.cs x)) := ⟨hb1, s1, r0, r1, rng_row r0⟩
  unfold rwA
  unfold V.Tr.val at kc
  clear hb1 s1 r0 r1 hL hs
  go_enter Tryz.func33, Tryz.ntmps33
  go_wp2_with (first | (refine wpList_load_mid rfl 34 (.tmp 3) rfl w.heap.size 2 rfl (t.cs x) _ HH.out.2.2.2.2 Tryz.underlying34 rfl info34 ?_; simp only [Act.put, List.setIfInBounds_toArray, List.set_cons_zero, List.set_cons_succ]; unfold V.Tr.cs) | fail)
  refine kc.mono ?_
  rintro q w2 ⟨A, rfl, hA, hb2, hT2⟩
  have s2 := hb2.size
  have hs1 := HH.out.2.1
  have q0 := (hb2.block _ (by omega)).trans HH.out.2.2.1
  have q1 := (hb2.block _ (by omega)).trans HH.out.2.2.2.1
  obtain ⟨w3, hw3⟩ : ∃ w3, w2.setCells w.heap.size 2 (t.cs A) = w3 := ⟨_, rfl⟩
  have r3 : w3.heap[w.heap.size]? = some (.cells (rwA d v t A) 45 (0, 0)) := by
    rw [← hw3, heap_setCells_full w.heap.size 45 (t.cs A) 2 w2 _ q0 rfl]
    rfl
  have q3 : w3.heap[w.heap.size + 1]? = some (.cells zeroW 45 (0, 0)) := by
    rw [← hw3, heap_setCells_else _ _ (by omega)]
    exact q1
  have H3 : Hid (w3.heap[w.heap.size]? = some (.cells (rwA d v t A) 45 (0, 0)) ∧ w3.heap[w.heap.size + 1]? = some (.cells zeroW 45 (0, 0)) ∧ w2.there w.heap.size 2 6 ∧ Below w.heap.size w w3 ∧ V.LiesS (fun k => w1.heap.size ≤ k ∧ k < w2.heap.size) w2 t A) := by
    refine ⟨r3, q3, fun j hj => ⟨?_, frozen_of_row w2 _ _ _ _ q0⟩, ?_, hA⟩
    · rw [cell_of_row w2 _ _ _ _ _ q0]
      simp [rwA]
      omega
    · rw [← hw3]
      have a1 := HH.out.1.trans (hb2.mono HH.out.1.size)
      exact below_setCells' (Nat.le_refl _) _ _ _ a1
  have HT : Hid (0 < t.m → ∃ z o cs, A.pa = some ⟨z, o, none⟩ ∧ w2.heap[z]? = some (.cells cs 34 (0, 0))) := hT2
  clear kc hb2 hA q0 q1 r3 q3 hw1 hT2
  have HV : Hid (#[Value.int .i64 t.k, .bool t.b, .int .i64 t.n, .string t.s, .slice A.pa t.m A.pc, .slice A.na t.q A.nc].toList = t.cs A) := by
    have e : #[Value.int .i64 t.k, .bool t.b, .int .i64 t.n, .string t.s, .slice A.pa t.m A.pc, .slice A.na t.q A.nc].toList = t.cs A := rfl
    exact e
  go_wp2_with (first
    | (refine wpList_store_mid rfl 34 (.tmp 6) (.tmp 5) rfl w.heap.size 2 #[.int .i64 t.k, .bool t.b, .int .i64 t.n, .string t.s, .slice A.pa t.m A.pc, .slice A.na t.q A.nc] rfl rfl H3.out.2.2.1 info34 (by simp [Value.oneCell']) ?_; rw [HV.out, hw3])
    | (refine wpList_get rfl 45 (.tmp 1) rfl rfl H3.out.1 Tryz.underlying45 rfl info45 ?_; simp only [Act.put, List.setIfInBounds_toArray, List.set_cons_zero, List.set_cons_succ])
    | (refine wpList_put rfl 45 (.tmp 2) (.tmp 7) rfl rfl rfl rfl H3.out.2.1 rfl info45 (by simp [rwA, Value.oneCell']) ?_)
    | fail)
  refine bodyPost_ret (results_cell_row Tryz.results33 _ _ (w.heap.size + 1) 45 _ (0, 0) _ rfl (put_row _ H3.out.2.1 rfl) Tryz.underlying45 rfl info45) rfl ⟨A, rfl, ?_, put_below H3.out.2.2.2.1 _ (Nat.le_succ _) _, fun h0 => ?_⟩
  · refine V.LiesS.up (fun k (hk : w1.heap.size ≤ k ∧ k < w2.heap.size) => (by omega : w.heap.size < k)) (V.LiesS.kept (fun k hk => ?_) H3.out.2.2.2.2)
    rw [put_other (by omega), ← hw3, heap_setCells_else _ _ (by omega)]
  · obtain ⟨z, o, cs, h1, h2⟩ := HT.out h0
    have hz := lt_of_row h2
    obtain ⟨b1, o1, e1, hb1', _⟩ := (V.LiesS.part' H3.out.2.2.2.2 h0)
    rw [h1] at e1
    injection e1 with e1
    injection e1 with e1
    subst e1
    refine ⟨z, o, cs, h1, ?_⟩
    rw [put_other (by omega), ← hw3, heap_setCells_else _ _ (by omega)]
    exact h2
end Go.Proofs.YtniljoojoafiaaaGreatDoor
namespace Go.Proofs.YtniljoojoafiaaaGreatDoor
open Go.RowKit Go.Shelf
attribute [local go_sem] Oper.semAt_some
set_option maxRecDepth 100000 in
set_option maxHeartbeats 4000000 in
theorem tget_one {w : World} (b m : Nat) (d v : Int) (t : V.Tr) (A : V.Ad) (i s : Value) (hd : 0 ≤ d ∧ d < 18446744073709551616) (hr : w.heap[b]? = some (.cells #[.map (some m), i, s] 75 (0, 0))) (hm : M1 31 w m (.int .u64 d) (.agg (rwA d v t A))) (hL : V.Lies w.heap.size w t A) (hs : V.slimq t) :
    Calls Tryz.prog 20 #[.pointer (some ⟨b, 0, none⟩), .int .u64 d] w fun e w' => ∃ A', e = .returned (.tuple #[.agg #[.int .u64 d, .int .u64 v, .int .i64 t.k, .bool t.b, .int .i64 t.n, .string t.s, .slice A'.pa t.m A'.pc, .slice A'.na t.q A'.nc], .bool true]) ∧ V.LiesS (fun k => w.heap.size < k) w' t A' ∧ Below w.heap.size w w' ∧ (0 < t.m → ∃ z o cs, A'.pa = some ⟨z, o, none⟩ ∧ w'.heap[z]? = some (.cells cs 34 (0, 0))) := by
  obtain ⟨w1, hw1⟩ : ∃ w1, w.alloc (.cells #[.int .u64 0, .int .u64 0, .int .i64 0, .bool false, .int .i64 0, .string ⟨#[]⟩, .slice none 0 0, .slice none 0 0] 45) = w1 := ⟨_, rfl⟩
  have hb1 : Below w.heap.size w w1 := by rw [← hw1]; exact (Below.refl _ w).alloc (Nat.le_refl _) _
  have s1 : w1.heap.size = w.heap.size + 1 := by rw [← hw1]; simp
  have r1 : w1.heap[w.heap.size]? = some (.cells #[.int .u64 0, .int .u64 0, .int .i64 0, .bool false, .int .i64 0, .string ⟨#[]⟩, .slice none 0 0, .slice none 0 0] 45 (0, 0)) := by rw [← hw1]; exact heap_alloc_new _ _
  obtain ⟨w2, hw2⟩ : ∃ w2, w1.alloc (.cells #[.int .u64 d, .int .u64 v, .int .i64 t.k, .bool t.b, .int .i64 t.n, .string t.s, .slice A.pa t.m A.pc, .slice A.na t.q A.nc] 45) = w2 := ⟨_, rfl⟩
  have hb2 : Below w1.heap.size w1 w2 := by rw [← hw2]; exact (Below.refl _ w1).alloc (Nat.le_refl _) _
  have s2 : w2.heap.size = w1.heap.size + 1 := by rw [← hw2]; simp
  have hB2 : Below w.heap.size w w2 := hb1.trans (hb2.mono hb1.size)
  have r2 := (hb2.block _ (lt_of_row r1)).trans r1
  have c0 := cell_of_row w1 b 0 _ _ _ ((hb1.block _ (lt_of_row hr)).trans hr)
  have hlk : (Instr.lookup 72 (.map (some m)) (.int .u64 d) true).run Tryz.prog w1 = .ok (.tuple #[.agg #[.int .u64 d, .int .u64 v, .int .i64 t.k, .bool t.b, .int .i64 t.n, .string t.s, .slice A.pa t.m A.pc, .slice A.na t.q A.nc], .bool true]) w1 := (hm.later hb1).look2 (t := 72) keyed31 Tryz.underlying72 (zero45 w1) (key31 hd) trivial
  have ko : Calls Tryz.prog 33 #[.agg #[.int .u64 d, .int .u64 v, .int .i64 t.k, .bool t.b, .int .i64 t.n, .string t.s, .slice A.pa t.m A.pc, .slice A.na t.q A.nc]] w2 fun e w' => ∃ A', e = .returned (.agg (rwA d v t A')) ∧ V.LiesS (fun k => w2.heap.size < k) w' t A' ∧ Below w2.heap.size w2 w' ∧ (0 < t.m → ∃ z o cs, A'.pa = some ⟨z, o, none⟩ ∧ w'.heap[z]? = some (.cells cs 34 (0, 0))) :=
    own_top d v t A (V.LiesS.up (fun k (hk : k < w.heap.size) => (by omega : k < w2.heap.size)) (hL.later hB2)) hs
  have HW : Hid (w.alloc (.cells #[.int .u64 0, .int .u64 0, .int .i64 0, .bool false, .int .i64 0, .string ⟨#[]⟩, .slice none 0 0, .slice none 0 0] 45) = w1 ∧ w1.alloc (.cells #[.int .u64 d, .int .u64 v, .int .i64 t.k, .bool t.b, .int .i64 t.n, .string t.s, .slice A.pa t.m A.pc, .slice A.na t.q A.nc] 45) = w2) := ⟨hw1, hw2⟩
  clear hw1 hw2 hL hm
  go_enter Tryz.func20, Tryz.ntmps20
  go_wp2_with (first | rw [HW.out.1] | fail)
  rw [HW.out.2]
  refine ko.mono ?_
  rintro e w3 ⟨A', rfl, hA', hb3, hT⟩
  have r3 := (hb3.block _ (lt_of_row r2)).trans r2
  have hst := cells_row r3 (rwA d v t A') rfl (by simp [rwA, Value.oneCell'])
  clear ko hlk c0
  go_wp2
  have r4 := put_row (rwA d v t A') r3 rfl
  obtain ⟨w4, hw4⟩ : ∃ w4, put w3 w.heap.size (rwA d v t A') = w4 := ⟨_, rfl⟩
  rw [hw4] at r4 ⊢
  have o0 : w4.cell? ⟨w.heap.size, 0, none⟩ = some (.int .u64 d) := cell_of_row w4 _ 0 _ _ _ r4
  have o1 : w4.cell? ⟨w.heap.size, 1, none⟩ = some (.int .u64 v) := cell_of_row w4 _ 1 _ _ _ r4
  have o2 : w4.cell? ⟨w.heap.size, 2, none⟩ = some (.int .i64 t.k) := cell_of_row w4 _ 2 _ _ _ r4
  have o3 : w4.cell? ⟨w.heap.size, 3, none⟩ = some (.bool t.b) := cell_of_row w4 _ 3 _ _ _ r4
  have o4 : w4.cell? ⟨w.heap.size, 4, none⟩ = some (.int .i64 t.n) := cell_of_row w4 _ 4 _ _ _ r4
  have o5 : w4.cell? ⟨w.heap.size, 5, none⟩ = some (.string t.s) := cell_of_row w4 _ 5 _ _ _ r4
  have o6 : w4.cell? ⟨w.heap.size, 6, none⟩ = some (.slice A'.pa t.m A'.pc) := cell_of_row w4 _ 6 _ _ _ r4
  have o7 : w4.cell? ⟨w.heap.size, 7, none⟩ = some (.slice A'.na t.q A'.nc) := cell_of_row w4 _ 7 _ _ _ r4
  have hk4 : ∀ k, k ≠ w.heap.size → w4.heap[k]? = w3.heap[k]? := fun k hk => by rw [← hw4]; exact put_other hk _
  have hB4 : Below w.heap.size w w4 := by
    rw [← hw4]
    exact put_below (hB2.trans (hb3.mono hB2.size)) _ (Nat.le_refl _) _
  refine bodyPost_ret (v := .tuple #[.agg #[.int .u64 d, .int .u64 v, .int .i64 t.k, .bool t.b, .int .i64 t.n, .string t.s, .slice A'.pa t.m A'.pc, .slice A'.na t.q A'.nc], .bool true]) (by simp [results, Tryz.results20, go_sem, o0, o1, o2, o3, o4, o5, o6, o7]) rfl ⟨A', rfl, ?_, hB4, fun h0 => ?_⟩
  · exact V.LiesS.up (fun k (hk : w2.heap.size < k) => (by omega : w.heap.size < k)) (V.LiesS.kept (fun k (hk : w2.heap.size < k) => hk4 k (by omega)) hA')
  · obtain ⟨z, o, cs, h1, h2⟩ := hT h0
    obtain ⟨b1, o1', e1, hb1', _⟩ := V.LiesS.part' hA' h0
    rw [h1] at e1
    injection e1 with e1
    injection e1 with e1
    subst e1
    exact ⟨z, o, cs, h1, (hk4 z (by omega)).trans h2⟩
end Go.Proofs.YtniljoojoafiaaaGreatDoor
namespace Go.Proofs.YtniljoojoafiaaaGreatDoor.V
open Go.RowKit
def slim : Tr → Prop
  | .no => True
  | .mk _ _ _ _ m f _ _ => m ≤ 33 ∧ ∀ i, i < m → slim (f i)
def RefC (t : Tr) : Prop := ∀ (B : Nat) (w : World) (x : Ad), Lies B w t x → B ≤ w.heap.size →
  Calls Tryz.prog 18 #[t.val x] w fun e w' => ∃ A, e = .returned (t.val A) ∧ LiesS (fun k => k < B ∨ (w.heap.size ≤ k ∧ k < w'.heap.size)) w' t A ∧ Below w.heap.size w w'
set_option maxRecDepth 100000 in
set_option maxHeartbeats 4000000 in
theorem ref_mk {k : Int} {b : Bool} {n : Int} {s : ByteArray} {m : Nat} {f : Nat → Tr} {q : Nat} {g : Nat → ByteArray} (hm33 : m ≤ 33) (ih : ∀ i, i < m → RefC (f i)) : RefC (.mk k b n s m f q g) := by
  intro B w x hL hB
  obtain ⟨A, hp, hr⟩ := hL.part
  have hN := hL.lims
  replace hN : (-9223372036854775808 ≤ k ∧ k < 9223372036854775808) ∧ (-9223372036854775808 ≤ n ∧ n < 9223372036854775808) ∧ s.size ≤ maxLen ∧ (m ≤ x.pc ∧ x.pc ≤ maxLen) ∧ Names B w q g x.na x.nc := hN
  obtain ⟨pa, pc, na, nc⟩ := x
  have hV : (Tr.mk k b n s m f q g).val ⟨pa, pc, na, nc⟩ = .agg #[.int .i64 k, .bool b, .int .i64 n, .string s, .slice pa m pc, .slice na q nc] := rfl
  rw [hV]
  clear hV
  have HI : Hid (∀ i, i < m → RefC (f i)) := ih
  have HP : Hid (0 < m → ∃ b o, pa = some ⟨b, o, none⟩ ∧ b < B ∧ ∀ i, i < m → At6 w b (o + i * 6) (f i) (A i)) := hp
  have HR : Hid (∀ i, i < m → Lies B w (f i) (A i)) := hr
  have HN : Hid ((-9223372036854775808 ≤ k ∧ k < 9223372036854775808) ∧ (-9223372036854775808 ≤ n ∧ n < 9223372036854775808) ∧ s.size ≤ maxLen ∧ (m ≤ pc ∧ pc ≤ maxLen) ∧ Names B w q g na nc) := hN
  clear ih hp hr hN
  obtain ⟨i0, hi, hz0, hz1, hz2⟩ := info_parts info33
  go_enter Tryz.func18, Tryz.ntmps18
  go_wp2_with fail
  obtain ⟨W2, hW2⟩ : ∃ W2, (w.alloc (.cells #[.int .i64 k, .bool b, .int .i64 n, .string s, .slice pa m pc, .slice na q nc] 34)).alloc (.cells #[.int .i64 0, .bool false, .int .i64 0, .string ⟨#[]⟩, .slice none 0 0, .slice none 0 0] 52) = W2 := ⟨_, rfl⟩
  have hb2 : Below w.heap.size w W2 := by rw [← hW2]; exact ((Below.refl _ w).alloc (Nat.le_refl _) _).alloc (by simp) _
  have hs2 : W2.heap.size = w.heap.size + 1 + 1 := by rw [← hW2]; simp
  have r3 : W2.heap[w.heap.size]? = some (.cells #[.int .i64 k, .bool b, .int .i64 n, .string s, .slice pa m pc, .slice na q nc] 34 (0, 0)) := by
    rw [← hW2, Below.heap_alloc _ _ _ (by simp)]; exact heap_alloc_new _ _
  have r6 : W2.heap[w.heap.size + 1]? = some (.cells #[.int .i64 0, .bool false, .int .i64 0, .string ⟨#[]⟩, .slice none 0 0, .slice none 0 0] 52 (0, 0)) := by
    rw [← hW2]; have := heap_alloc_new (w.alloc (.cells #[.int .i64 k, .bool b, .int .i64 n, .string s, .slice pa m pc, .slice na q nc] 34)) (.cells #[.int .i64 0, .bool false, .int .i64 0, .string ⟨#[]⟩, .slice none 0 0, .slice none 0 0] 52); simpa using this
  have r7 : (W2.alloc (.cells #[.int .i64 k, .bool b, .int .i64 n, .string s, .slice none 0 0, .slice na q nc] 52)).heap[w.heap.size + 1 + 1]? = some (.cells #[.int .i64 k, .bool b, .int .i64 n, .string s, .slice none 0 0, .slice na q nc] 52 (0, 0)) := by rw [← hs2]; exact heap_alloc_new _ _
  have hb7 : Below (w.heap.size + 1 + 1) W2 (W2.alloc (.cells #[.int .i64 k, .bool b, .int .i64 n, .string s, .slice none 0 0, .slice na q nc] 52)) := (Below.refl _ _).alloc (by omega) _
  rw [hW2]
  clear hW2
  go_loopw [4] (fun c4 wr => ∃ (i : Nat) (v : Value) (A' : Nat → Ad), i ≤ m ∧ c4 = .int .i64 (i : Int) ∧ wr.heap[w.heap.size + 1 + 1]? = some (.cells #[.int .i64 k, .bool b, .int .i64 n, .string s, v, .slice na q nc] 52 (0, 0)) ∧ Below (w.heap.size + 1 + 1) W2 wr ∧ Mine 52 (fun k => k < B) (w.heap.size + 1 + 1 + 1) wr v i f A') (fun c4 _ => m - (intOf c4).toNat)
  case atStart => exact ⟨0, .slice none 0 0, A, by omega, rfl, r7, hb7, Mine.start _ _ _ _ _ _⟩
  case round =>
    clear r7 hb7
    obtain ⟨i, v, A', hi', rfl, hrow, hbw, hmine⟩ := hrel
    have hlt7 := lt_of_row hrow
    have g4 := cell_of_row wr _ 4 _ _ _ ((hbw.block w.heap.size (by omega)).trans r3)
    by_cases hiN : i < m
    · have him' : (i : Int) < (m : Int) := by omega
      have hi33 : i < 33 := by omega
      obtain ⟨pb, po, rfl, hpb, hat⟩ := HP.out (by omega)
      have hBw : Below B w wr := (hb2.mono hB).trans (hbw.mono (by omega))
      have h6a := (hat i (by omega)).later hpb hBw
      have d0 := h6a.c0
      have d1 := h6a.c1
      have d2 := h6a.c2
      have d3 := h6a.c3
      have d4 := h6a.c4
      have d5 := h6a.c5
      have hLi := (HR.out i (by omega)).later hBw
      have e4 := cell_of_row wr _ 4 _ _ _ hrow
      have f4 := frozen_of_row wr _ 4 _ _ hrow
      clear hat h6a
      have hszr := hbw.size
      have hLd : Lies B wr.drew (f i) (A i) := LiesS.kept (w := wr) (w' := wr.drew) (fun _ _ => rfl) hLi
      obtain ⟨t, ht⟩ : ∃ t, f i = t := ⟨_, rfl⟩
      have hcall : Calls Tryz.prog 18 #[.agg #[.int .i64 (f i).k, .bool (f i).b, .int .i64 (f i).n, .string (f i).s, .slice (A i).pa (f i).m (A i).pc, .slice (A i).na (f i).q (A i).nc]] wr.drew fun e w' => ∃ A1 : Ad, e = .returned (.agg #[.int .i64 t.k, .bool t.b, .int .i64 t.n, .string t.s, .slice A1.pa t.m A1.pc, .slice A1.na t.q A1.nc]) ∧ LiesS (fun k => k < B ∨ (wr.heap.size ≤ k ∧ k < w'.heap.size)) w' t A1 ∧ Below wr.heap.size wr w' := by
        rw [← ht]
        refine (HI.out i hiN B wr.drew (A i) hLd (by show B ≤ wr.heap.size; omega)).mono ?_
        rintro e1 w' ⟨A1, h1, h2, h3⟩
        exact ⟨A1, h1, h2, (Below.refl _ wr).drew.trans h3⟩
      have HTT : Hid (f i = t) := ht
      clear ht
      go_wp2_with fail
      go_region_law ((first | (go_simp; go_at_call 18; refine hcall.mono ?_; rintro e w1 ⟨A1, rfl, hL1, hb1⟩; have e41 := (hb1.cell (p := ⟨w.heap.size + 1 + 1, 4, none⟩) hlt7).trans e4; have e4a : ∀ o, (w1.alloc o).cell? ⟨w.heap.size + 1 + 1, 4, none⟩ = some v := fun o => cell_kept e41 (Below.heap_alloc w1 o _ (block_lt e41)); have hrow1 := (hb1.block _ hlt7).trans hrow; have hm1 := hmine.kept (w' := w1) hb1.size (fun k hk => hb1.block k (by omega)) (fun k _ hk => hb1.block k hk); dsimp only) | (refine step_append_lies _ (by rfl) (.tmp 24) (.tmp 31) 50 (by rfl) (w.heap.size + 1 + 1 + 1) 52 i0 _ 6 88 Tryz.underlying50 hi hz0 hz1 hz2 (by rfl) (by decide) v i _ (by rfl) (hm1.own.alloc _) ⟨w1.heap.size, 0, none⟩ 1 1 (t.cs A1) (by rfl) (by rfl) (World.news_of_block (heap_alloc_new w1 _)) (cs_one t A1) (by decide) (by unfold maxLen; omega) (by omega) (by have := hb1.size; simp; omega) (w1.heap.size + 1) (by simp) ?_; intro g1 cap1 w2 hown2 hgr2 hat2 hlt2; have e42 := far_cell hgr2 hm1.block_ge e41 (by show w.heap.size + 1 + 1 < _; omega); have hrow2 := far_row hgr2 hm1.block_ge hrow1 (show w.heap.size + 1 + 1 < _ by omega); have f42 := frozen_of_row w2 _ 4 _ _ hrow2)))
      all_goals
        have ht := HTT.out
        have hmA := hm1.kept (w' := w1.alloc (.cells #[.int .i64 t.k, .bool t.b, .int .i64 t.n, .string t.s, .slice A1.pa t.m A1.pc, .slice A1.na t.q A1.nc] 52)) (by simp) (fun k hk => Below.heap_alloc w1 _ k (by have := hb1.size; omega)) (fun k _ hk => Below.heap_alloc w1 _ k hk)
        have hbz := ((hbw.trans (hb1.mono (by omega))).alloc (by have := hb1.size; omega) (.cells #[.int .i64 t.k, .bool t.b, .int .i64 t.n, .string t.s, .slice A1.pa t.m A1.pc, .slice A1.na t.q A1.nc] 52)).grown hgr2 (by have := hb1.size; simp; omega) (fun k hk => by have := hm1.block_ge k hk; omega)
        have hT1 := lies_alloc hL1 (fun k hk => by have := hb1.size; omega) (.cells #[.int .i64 t.k, .bool t.b, .int .i64 t.n, .string t.s, .slice A1.pa t.m A1.pc, .slice A1.na t.q A1.nc] 52)
        have hstep := Mine.step (wr := wr) (a := A1) hmA (by have := hb1.size; simp; omega) (by omega) hmine.block_lt (fun k hk => by omega) (by rw [ht]; exact hT1.up (fun k hk => by rcases hk with hk | hk; exact Or.inl hk; exact Or.inr ⟨hk.1, by simp; omega⟩)) (by rw [ht]; exact hown2) hgr2 hat2 (by simp)
        have hset := hstep.kept (w' := w2.setCell ⟨w.heap.size + 1 + 1, 4, none⟩ (.slice (some ⟨g1, 0, none⟩) (i + 1) cap1)) (by simp) (fun k hk => Below.heap_setCell _ _ _ k (by show k ≠ w.heap.size + 1 + 1; omega)) (fun k hk _ => Below.heap_setCell _ _ _ k (by show k ≠ w.heap.size + 1 + 1; omega))
        have hrow3 := row_setCell (k := 4) hrow2 (.slice (some ⟨g1, 0, none⟩) (i + 1) cap1)
        have hbz3 := hbz.setCell (p := ⟨w.heap.size + 1 + 1, 4, none⟩) (Nat.le_refl _) (.slice (some ⟨g1, 0, none⟩) (i + 1) cap1)
        clear ht hmA hbz hT1 hstep hown2 hgr2 hm1 hL1 hb1
        go_wp2
        go_roundw
        case rel => exact ⟨i + 1, _, _, by omega, by go_num, hrow3, hbz3, hset⟩
        case measure => simp [intOf]; omega
    · obtain rfl : m = i := by omega
      have hr6 := (hbw.block (w.heap.size + 1) (by omega)).trans r6
      have a0 := cell_of_row wr _ 0 _ _ _ hr6
      have a1 := cell_of_row wr _ 1 _ _ _ hr6
      have a2 := cell_of_row wr _ 2 _ _ _ hr6
      have a3 := cell_of_row wr _ 3 _ _ _ hr6
      have a4 := cell_of_row wr _ 4 _ _ _ hr6
      have a5 := cell_of_row wr _ 5 _ _ _ hr6
      have b0 := frozen_of_row wr _ 0 _ _ hr6
      have b1 := frozen_of_row wr _ 1 _ _ hr6
      have b2 := frozen_of_row wr _ 2 _ _ hr6
      have b3 := frozen_of_row wr _ 3 _ _ hr6
      have b4 := frozen_of_row wr _ 4 _ _ hr6
      have b5 := frozen_of_row wr _ 5 _ _ hr6
      have e0 := cell_of_row wr _ 0 _ _ _ hrow
      have e1 := cell_of_row wr _ 1 _ _ _ hrow
      have e2 := cell_of_row wr _ 2 _ _ _ hrow
      have e3 := cell_of_row wr _ 3 _ _ _ hrow
      have e4 := cell_of_row wr _ 4 _ _ _ hrow
      have e5 := cell_of_row wr _ 5 _ _ _ hrow
      obtain ⟨pa', pc', rfl, hpc, hpp, hll⟩ := hmine.done (S' := fun k => k < B ∨ (w.heap.size + 1 + 1 + 1 ≤ k ∧ k < wr.heap.size)) (fun k hk => Or.inl hk) (fun k h1 h2 => Or.inr ⟨h1, h2⟩)
      clear hmine
      go_wp2
      change bodyPost _ _ _ _ _ (set6 wr (w.heap.size + 1) (.int .i64 k) (.bool b) (.int .i64 n) (.string s) (.slice pa' m pc') (.slice na q nc))
      have hro := set6_row hr6 (.int .i64 k) (.bool b) (.int .i64 n) (.string s) (.slice pa' m pc') (.slice na q nc)
      have hkeep : ∀ k1, k1 ≠ w.heap.size + 1 → (set6 wr (w.heap.size + 1) (.int .i64 k) (.bool b) (.int .i64 n) (.string s) (.slice pa' m pc') (.slice na q nc)).heap[k1]? = wr.heap[k1]? := fun k1 h1 => set6_block _ _ _ _ _ _ _ _ k1 h1
      have hsz := set6_size wr (w.heap.size + 1) (.int .i64 k) (.bool b) (.int .i64 n) (.string s) (.slice pa' m pc') (.slice na q nc)
      have hbf := set6_below (hb2.trans (hbw.mono (by omega))) (w.heap.size + 1) (by omega) (.int .i64 k) (.bool b) (.int .i64 n) (.string s) (.slice pa' m pc') (.slice na q nc)
      obtain ⟨wf, hwf⟩ : ∃ wf, set6 wr (w.heap.size + 1) (.int .i64 k) (.bool b) (.int .i64 n) (.string s) (.slice pa' m pc') (.slice na q nc) = wf := ⟨_, rfl⟩
      rw [hwf] at hro hkeep hsz hbf ⊢
      clear hwf
      have o0 := cell_of_row wf _ 0 _ _ _ hro
      have o1 := cell_of_row wf _ 1 _ _ _ hro
      have o2 := cell_of_row wf _ 2 _ _ _ hro
      have o3 := cell_of_row wf _ 3 _ _ _ hro
      have o4 := cell_of_row wf _ 4 _ _ _ hro
      have o5 := cell_of_row wf _ 5 _ _ _ hro
      refine bodyPost_ret (v := .agg #[.int .i64 k, .bool b, .int .i64 n, .string s, .slice pa' m pc', .slice na q nc]) (by simp [results, Tryz.results18, go_sem, o0, o1, o2, o3, o4, o5]) rfl ⟨⟨pa', pc', na, nc⟩, rfl, ?_, hbf⟩
      have hnk : NamesS (fun k => k < B ∨ (w.heap.size + 1 + 1 + 1 ≤ k ∧ k < wr.heap.size)) wr q g na nc := NamesS.up (fun k hk => Or.inl hk) (Names.later HN.out.2.2.2.2 ((hb2.mono hB).trans (hbw.mono (by omega))))
      have hfin : LiesS (fun k => k < B ∨ (w.heap.size + 1 + 1 + 1 ≤ k ∧ k < wr.heap.size)) wr (.mk k b n s m f q g) ⟨pa', pc', na, nc⟩ := .mk A' HN.out.1 HN.out.2.1 HN.out.2.2.1 hpc hpp hll hnk
      refine (hfin.kept (fun k1 hk => hkeep k1 (by omega))).up (fun k1 hk => ?_)
      rcases hk with hk | hk
      · exact Or.inl hk
      · exact Or.inr ⟨by omega, by omega⟩
set_option maxRecDepth 100000 in
theorem ref_all (t : Tr) (h : slim t) : RefC t := by
  induction t with
  | no => exact fun _ _ _ hL => hL.no.elim
  | mk k b n s m f q g ih => exact ref_mk h.1 (fun i hi => ih i (h.2 i hi))
set_option maxRecDepth 100000 in
theorem slim_cut (t : Tr) : ∀ d w, w ≤ 33 → slim (cutT t d w) := by
  induction t with
  | no => exact fun _ _ _ => trivial
  | mk k b n s m f q g ih =>
    intro d w hw
    rw [cutT]
    refine ⟨?_, fun i _ => ih i (d - 1) 4 (by omega)⟩
    split <;> omega
end Go.Proofs.YtniljoojoafiaaaGreatDoor.V
