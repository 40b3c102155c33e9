/- The order of names (slices.SortStableFunc with Struct's closure, up to 12 of them) and the place of a name (slices.IndexFunc with Get's): the library's contracts, laid in plain words. The part of a struct with a name (Get), where it is there. The simple values (None, Bool, Int, Str, Bytes). -/
import Derived.Test.YtniljoojoafiaaaGreatDoorXan
import Derived.Shelf.SlSortCmp.Insertion
import Derived.Shelf.SlicesE.IndexFunc
import Derived.Test.YtniljoojoafiaaaGreatDoorVCln
import Derived.Test.YtniljoojoafiaaaGreatDoorXag
namespace Go.Proofs.YtniljoojoafiaaaGreatDoor.V
open Go.Shelf Go.RowKit Go.Lib Go.Sort
def insR : Go.Shelf.Ren := ⟨fun | 20 => 87 | n => n, fun | 22 => 81 | 24 => 3 | 25 => 84 | n => n, fun n => n⟩
set_option maxRecDepth 100000 in
theorem insL : Go.Proofs.SlLaysF.n20 Tryz.prog insR := {
  mixed := by kernel_rfl
  f20 := ⟨Tryz.f87.name, by kernel_rfl, Tryz.func87.trans (congrArg some (by kernel_rfl))⟩
  t0 := Tryz.underlying0
  a0 := Tryz.isAgg0
  z0 := Tryz.sizeOf0
  v0 := Tryz.zeroValue0
  t3 := Tryz.underlying3
  a3 := Tryz.isAgg3
  z3 := Tryz.sizeOf3
  v3 := Tryz.zeroValue3
  t4 := Tryz.underlying4
  a4 := Tryz.isAgg4
  z4 := Tryz.sizeOf4
  v4 := Tryz.zeroValue4
  t22 := Tryz.underlying81
  a22 := Tryz.isAgg81
  z22 := Tryz.sizeOf81
  v22 := Tryz.zeroValue81
  a24 := Tryz.isAgg3
  z24 := Tryz.sizeOf3
  t25 := Tryz.underlying84
  a25 := Tryz.isAgg84
  z25 := Tryz.sizeOf84
  v25 := Tryz.zeroValue84 }
def idxR : Go.Shelf.Ren := ⟨fun | 6 => 84 | n => n, fun | 22 => 28 | 23 => 9 | 25 => 41 | n => n, fun n => n⟩
set_option maxRecDepth 100000 in
theorem idxL : Go.Proofs.SlLaysH.n6 Tryz.prog idxR := {
  mixed := by kernel_rfl
  f6 := ⟨Tryz.f84.name, by kernel_rfl, Tryz.func84.trans (congrArg some (by kernel_rfl))⟩
  t0 := Tryz.underlying0
  a0 := Tryz.isAgg0
  z0 := Tryz.sizeOf0
  v0 := Tryz.zeroValue0
  t3 := Tryz.underlying3
  a3 := Tryz.isAgg3
  z3 := Tryz.sizeOf3
  v3 := Tryz.zeroValue3
  t4 := Tryz.underlying4
  a4 := Tryz.isAgg4
  z4 := Tryz.sizeOf4
  v4 := Tryz.zeroValue4
  t22 := Tryz.underlying28
  a22 := Tryz.isAgg28
  z22 := Tryz.sizeOf28
  v22 := Tryz.zeroValue28
  a23 := Tryz.isAgg9
  z23 := Tryz.sizeOf9
  t25 := Tryz.underlying41
  a25 := Tryz.isAgg41
  z25 := Tryz.sizeOf41
  v25 := Tryz.zeroValue41 }
set_option maxRecDepth 100000 in
set_option maxHeartbeats 2000000 in
theorem struct1 {q nc : Nat} {g : Nat → ByteArray} {b o z : Nat} {w : World} (i k : Nat) (hi : i < q) (hk : k < q) (hz : w.cell? ⟨z, 0, none⟩ = some (.slice (some ⟨b, o, none⟩) q nc)) (hn : ∀ i, i < q → w.cell? ⟨b, o + i, none⟩ = some (.string (g i))) :
    Calls Tryz.prog 35 #[.int .i64 (i : Int), .int .i64 (k : Int), .pointer (some ⟨z, 0, none⟩)] w fun r w' => r = .returned (.int .i64 (cmpB (g i) (g k))) ∧ ∃ q', w' = w.drewN q' := by
  have h1 := hn i hi
  have h2 := hn k hk
  have hi' : (i : Int) < (q : Int) := by omega
  have hk' : (k : Int) < (q : Int) := by omega
  clear hn
  have hcon := scmp (g i) (g k)
  generalize cmpB (g i) (g k) = r at hcon ⊢
  go_enter Tryz.func35, Tryz.ntmps35
  go_wp2
  go_quiet ((go_at_call 36; exact Calls.quiet_of_same (hcon _)))
  go_wp2
  go_ret
  exact ⟨rfl, _, rfl⟩
def encF (n : Nat) (i : Fin (n + 1)) : Value := .int .i64 (i.val : Int)
def cfF (g : Nat → ByteArray) (n : Nat) (i k : Fin (n + 1)) : Int := cmpB (g i.val) (g k.val)
def sortF (g : Nat → ByteArray) (n : Nat) (d : Array (Fin (n + 1))) : Array (Fin (n + 1)) := Sort.insertionSort (ltOf (cfF g n)) d 0 d.size
set_option maxRecDepth 100000 in
theorem sort_reads {q nc n : Nat} {g : Nat → ByteArray} {b o z blk : Nat} {w : World} (hnq : n + 1 ≤ q) (hz : w.cell? ⟨z, 0, none⟩ = some (.slice (some ⟨b, o, none⟩) q nc)) (hn : ∀ i, i < q → w.cell? ⟨b, o + i, none⟩ = some (.string (g i))) (hzb : z ≠ blk) (hbb : b ≠ blk) :
    CmpReads Tryz.prog 35 #[.pointer (some ⟨z, 0, none⟩)] (encF n) (cfF g n) blk 0 (n + 1) w := by
  intro m os dk hdk x y
  have hcell : ∀ a : Addr, a.block ≠ blk → ∀ v, w.cell? a = some v → (sortWorld (encF n) w blk 0 m dk os).cell? a = some v := fun a ha v hv => by
    have hl := block_lt hv
    unfold sortWorld
    rw [cell?_grow _ _ _ (by simp [putRow, mapBlock, Sort.ahead]; exact hl), cell?_putRow_other _ _ _ _ _ _ (Or.inl ha)]
    exact hv
  exact struct1 x.val y.val (by have := x.isLt; omega) (by have := y.isLt; omega) (hcell _ hzb _ hz) (fun i hi => hcell ⟨b, o + i, none⟩ hbb _ (hn i hi))
set_option maxRecDepth 100000 in
set_option maxHeartbeats 2000000 in
theorem sort87 {N cap : Nat} {A : Addr} {F : Value} {w : World} {X : Nat → World} (hN : N ≤ 12) (hcon : Calls Tryz.prog 87 #[.slice (some A) N cap, .int .i64 0, .int .i64 (N : Int), F] w fun e w' => e = .returned (.tuple #[]) ∧ ∃ k, w' = X k) :
    Calls Tryz.prog 59 #[.slice (some A) N cap, .int .i64 (N : Int), F] w fun e w' => e = .returned (.tuple #[]) ∧ ∃ k, w' = X k := by
  have h20 : ¬ ((20 : Int) ≤ (N : Int)) := by omega
  have h21 : ¬ ((20 : Int) < (N : Int)) := by omega
  go_enter Tryz.func59, Tryz.ntmps59
  go_wp2
  refine wp_loop_rounds 1 ?_
  rw [rounds_succ]
  go_wp2_with (first | (go_at_call 87; refine hcon.mono ?_; rintro e w' ⟨rfl, k, rfl⟩))
  refine wp_loop_rounds 1 ?_
  rw [rounds_succ]
  go_wp2
  go_end0
  exact ⟨rfl, k, rfl⟩
set_option maxRecDepth 100000 in
set_option maxHeartbeats 2000000 in
theorem sort55 {N cap : Nat} {A : Addr} {F : Value} {w : World} {X : Nat → World} (hN : N ≤ 12) (hcon : Calls Tryz.prog 87 #[.slice (some A) N cap, .int .i64 0, .int .i64 (N : Int), F] w fun e w' => e = .returned (.tuple #[]) ∧ ∃ k, w' = X k) :
    Calls Tryz.prog 34 #[.slice (some A) N cap, F] w fun e w' => e = .returned (.tuple #[]) ∧ ∃ k, w' = X k := by
  have h87 := sort87 hN hcon
  clear hcon
  go_enter Tryz.func34, Tryz.ntmps34
  go_wp2_with (first | (go_at_call 59; refine h87.mono ?_; rintro e w' ⟨rfl, k, rfl⟩))
  go_end0
  exact ⟨rfl, k, rfl⟩
set_option maxRecDepth 100000 in
theorem sort_any {q nc n : Nat} {g : Nat → ByteArray} {b o z blk cap : Nat} {w : World} (hn12 : n + 1 ≤ 12) (hnq : n + 1 ≤ q) (hz : w.cell? ⟨z, 0, none⟩ = some (.slice (some ⟨b, o, none⟩) q nc)) (hn : ∀ i, i < q → w.cell? ⟨b, o + i, none⟩ = some (.string (g i))) (hzb : z ≠ blk) (hbb : b ≠ blk)
    (d : Array (Fin (n + 1))) (hd : d.size = n + 1) (hH : Holds (encF n) w blk 0 d) :
    Calls Tryz.prog 34 #[.slice (some ⟨blk, 0, none⟩) (n + 1) cap, .func (.func 35) #[] #[.pointer (some ⟨z, 0, none⟩)]] w fun e w' => e = .returned (.tuple #[]) ∧ ∃ k, w' = (putRow (encF n) w blk 0 (sortF g n d)).drewN k := by
  have eg : ∀ args w, (callFunc 35 args).run Tryz.prog w = .ok (.enter 35 args) w := enters_of Tryz.func35 (by kernel_rfl) rfl
  have hcon := Any.insertionSortCmpFunc_one insL (encF n) (fun _ => rfl) (cfF g n) 35 #[.pointer (some ⟨z, 0, none⟩)] blk 0 cap 0 d.size d w eg (by rw [hd]; exact sort_reads hnq hz hn hzb hbb) hH (Nat.zero_le _) (Nat.le_refl _) (by omega)
  change Calls Tryz.prog 87 _ _ (fun e w' => e = .returned (.tuple #[]) ∧ ∃ k, w' = (putRow (encF n) w blk 0 (sortF g n d)).drewN k) at hcon
  rw [hd] at hcon
  exact sort55 hn12 hcon
end Go.Proofs.YtniljoojoafiaaaGreatDoor.V
namespace Go.Proofs.YtniljoojoafiaaaGreatDoor.V
open Go.RowKit
set_option maxRecDepth 100000 in
theorem idx_get {b o q nc z : Nat} {g : Nat → ByteArray} {w : World} (s : ByteArray) (i : Int) (hq : q ≤ 64) (hz : w.cell? ⟨z, 0, none⟩ = some (.string s)) (hn : ∀ i, i < q → w.cell? ⟨b, o + i, none⟩ = some (.string (g i)))
    (hidx : Lib.idxBy (fun _ y => y.toList == s.toList) ((List.range q).map g) (default : ByteArray) = i) :
    Calls Tryz.prog 84 #[.slice (some ⟨b, o, none⟩) q nc, .func (.func 85) #[] #[.pointer (some ⟨z, 0, none⟩)]] w fun e w' => e = .returned (.int .i64 i) ∧ ∃ k, w' = w.drewN k := by
  have eg : ∀ args w, (callFunc 85 args).run Tryz.prog w = .ok (.enter 85 args) w := enters_of Tryz.func85 (by kernel_rfl) rfl
  have hzb := block_lt hz
  have hp : PredAt Tryz.prog 85 #[.pointer (some ⟨z, 0, none⟩)] Value.string (fun y : ByteArray => y.toList == s.toList) w := fun W x hb => by
    refine (get1 x s z W (cell_later hz hzb hb)).mono ?_
    rintro e w' ⟨rfl, rfl⟩
    exact ⟨rfl, 0, rfl⟩
  have hcon := AnyE.slices_IndexFunc idxL Value.string (fun y : ByteArray => y.toList == s.toList) 85 #[.pointer (some ⟨z, 0, none⟩)] eg b o q nc ((List.range q).map g) w hp (by simp) (by omega) (fun j hj => by
    have hj' : j < q := by simpa using hj
    rw [hn j hj', getElem!_pos _ j hj]
    simp)
  rw [List.take_of_length_le (by simp), hidx] at hcon
  exact hcon
set_option maxRecDepth 100000 in
set_option maxHeartbeats 4000000 in
theorem get_at {B : Nat} {w : World} {b : Bool} {n : Int} {s : ByteArray} {m : Nat} {f : Nat → Tr} {q : Nat} {g : Nat → ByteArray} {x : Ad} (hL : Lies B w (.mk 6 b n s m f q g) x) (hB : B ≤ w.heap.size) (name : ByteArray) (i : Nat) (hq0 : 0 < q) (hq : q ≤ 64) (him : i < m) (hsl : slimq (f i))
    (hidx : Lib.idxBy (fun _ y => y.toList == name.toList) ((List.range q).map g) (default : ByteArray) = (i : Int)) :
    Calls Tryz.prog 55 #[(Tr.mk 6 b n s m f q g).val x, .string name] w fun e w' => ∃ A, e = .returned ((f i).val A) ∧ LiesS (fun k => w.heap.size ≤ k ∧ k < w'.heap.size) w' (f i) A ∧ Below w.heap.size w w' := by
  obtain ⟨A, hp, hr⟩ := hL.part
  have hN := hL.lims
  replace hN : (-9223372036854775808 ≤ (6 : Int) ∧ (6 : Int) < 9223372036854775808) ∧ (-9223372036854775808 ≤ n ∧ n < 9223372036854775808) ∧ s.size ≤ maxLen ∧ (m ≤ x.pc ∧ x.pc ≤ maxLen) ∧ Names B w q g x.na x.nc := hN
  obtain ⟨pa, pc, na, nc⟩ := x
  obtain ⟨_, _, _, hm, hq1, hq2, hq3, hq4⟩ := hN
  obtain ⟨pb, po, rfl, hpb, hat⟩ : ∃ b o, pa = some ⟨b, o, none⟩ ∧ b < B ∧ ∀ i, i < m → At6 w b (o + i * 6) (f i) (A i) := hp (by omega)
  obtain ⟨nb, no, rfl, hnb, hnc⟩ : ∃ b o, na = some ⟨b, o, none⟩ ∧ b < B ∧ ∀ i, i < q → w.cell? ⟨b, o + i, none⟩ = some (.string (g i)) := hq4 hq0
  show Calls Tryz.prog 55 #[.agg #[.int .i64 6, .bool b, .int .i64 n, .string s, .slice (some ⟨pb, po, none⟩) m pc, .slice (some ⟨nb, no, none⟩) q nc], .string name] w _
  have HC : Hid (CloneC (f i)) := clone_all (f i) hsl
  obtain ⟨W3, hW3⟩ : ∃ W3, ((w.alloc (.cells #[.int .i64 6, .bool b, .int .i64 n, .string s, .slice (some ⟨pb, po, none⟩) m pc, .slice (some ⟨nb, no, none⟩) q nc] 34)).alloc (.cells #[.string name] 9)).alloc (.cells #[.int .i64 0, .bool false, .int .i64 0, .string ⟨#[]⟩, .slice none 0 0, .slice none 0 0] 34) = W3 := ⟨_, rfl⟩
  have hb3 : Below w.heap.size w W3 := by rw [← hW3]; exact (((Below.refl _ w).alloc (Nat.le_refl _) _).alloc (by simp) _).alloc (by simp; omega) _
  have hs3 : W3.heap.size = w.heap.size + 1 + 1 + 1 := by rw [← hW3]; simp
  have r1 : W3.cell? ⟨w.heap.size + 1, 0, none⟩ = some (.string name) := by
    have h1 := heap_alloc_new (w.alloc (.cells #[.int .i64 6, .bool b, .int .i64 n, .string s, .slice (some ⟨pb, po, none⟩) m pc, .slice (some ⟨nb, no, none⟩) q nc] 34)) (.cells #[.string name] 9)
    have h2 := Below.heap_alloc ((w.alloc (.cells #[.int .i64 6, .bool b, .int .i64 n, .string s, .slice (some ⟨pb, po, none⟩) m pc, .slice (some ⟨nb, no, none⟩) q nc] 34)).alloc (.cells #[.string name] 9)) (.cells #[.int .i64 0, .bool false, .int .i64 0, .string ⟨#[]⟩, .slice none 0 0, .slice none 0 0] 34) (w.heap.size + 1) (by simp)
    rw [hW3] at h2
    exact cell_of_row W3 _ 0 _ _ _ (h2.trans (by simpa using h1))
  have r0 : W3.heap[w.heap.size]? = some (.cells #[.int .i64 6, .bool b, .int .i64 n, .string s, .slice (some ⟨pb, po, none⟩) m pc, .slice (some ⟨nb, no, none⟩) q nc] 34 (0, 0)) := by
    rw [← hW3, Below.heap_alloc _ _ _ (by simp; omega), Below.heap_alloc _ _ _ (by simp)]
    exact heap_alloc_new _ _
  have r2 : W3.heap[w.heap.size + 1 + 1]? = some (.cells #[.int .i64 0, .bool false, .int .i64 0, .string ⟨#[]⟩, .slice none 0 0, .slice none 0 0] 34 (0, 0)) := by
    rw [← hW3]
    have := heap_alloc_new ((w.alloc (.cells #[.int .i64 6, .bool b, .int .i64 n, .string s, .slice (some ⟨pb, po, none⟩) m pc, .slice (some ⟨nb, no, none⟩) q nc] 34)).alloc (.cells #[.string name] 9)) (.cells #[.int .i64 0, .bool false, .int .i64 0, .string ⟨#[]⟩, .slice none 0 0, .slice none 0 0] 34)
    simpa using this
  have hidx2 := idx_get (nc := nc) name (i : Int) hq r1 (fun j hj => cell_later (hnc j hj) hnb (hb3.mono hB)) hidx
  have hwd : ∀ k, Below w.heap.size w (W3.drewN k) := fun k => ⟨hb3.os, hb3.tape, hb3.output, hb3.size, hb3.block⟩
  have h6a : ∀ k, At6 (W3.drewN k) pb (po + i * 6) (f i) (A i) := fun k => (hat i him).later hpb ((hwd k).mono hB)
  have hLi : ∀ k, Lies B (W3.drewN k) (f i) (A i) := fun k => (hr i him).later ((hwd k).mono hB)
  obtain ⟨t, ht⟩ : ∃ t, f i = t := ⟨_, rfl⟩
  rw [ht] at h6a hLi HC ⊢
  obtain ⟨a, ha⟩ : ∃ a, A i = a := ⟨_, rfl⟩
  rw [ha] at h6a hLi
  have HI : Hid (Calls Tryz.prog 84 #[.slice (some ⟨nb, no, none⟩) q nc, .func (.func 85) #[] #[.pointer (some ⟨w.heap.size + 1, 0, none⟩)]] W3 fun e w' => e = .returned (.int .i64 (i : Int)) ∧ ∃ k, w' = W3.drewN k) := hidx2
  have HW : Hid (((w.alloc (.cells #[.int .i64 6, .bool b, .int .i64 n, .string s, .slice (some ⟨pb, po, none⟩) m pc, .slice (some ⟨nb, no, none⟩) q nc] 34)).alloc (.cells #[.string name] 9)).alloc (.cells #[.int .i64 0, .bool false, .int .i64 0, .string ⟨#[]⟩, .slice none 0 0, .slice none 0 0] 34) = W3) := hW3
  have H6 : Hid (∀ k, At6 (W3.drewN k) pb (po + i * 6) t a) := h6a
  have HL : Hid (∀ k, Lies B (W3.drewN k) t a) := hLi
  have him' : (i : Int) < (m : Int) := by omega
  clear hidx2 hidx hp hr hL hat hnc hq4 hW3 h6a hLi
  go_enter Tryz.func55, Tryz.ntmps55
  go_wp2_with fail
  rw [HW.out]
  refine HI.out.mono ?_
  rintro e w1 ⟨rfl, k, rfl⟩
  obtain ⟨wd, hwd2⟩ : ∃ wd, W3.drewN k = wd := ⟨_, rfl⟩
  have q0 : wd.heap[w.heap.size]? = some (.cells #[.int .i64 6, .bool b, .int .i64 n, .string s, .slice (some ⟨pb, po, none⟩) m pc, .slice (some ⟨nb, no, none⟩) q nc] 34 (0, 0)) := by rw [← hwd2]; exact r0
  have q2 : wd.heap[w.heap.size + 1 + 1]? = some (.cells #[.int .i64 0, .bool false, .int .i64 0, .string ⟨#[]⟩, .slice none 0 0, .slice none 0 0] 34 (0, 0)) := by rw [← hwd2]; exact r2
  have hbd : Below w.heap.size w wd := by rw [← hwd2]; exact hwd k
  have hsd : wd.heap.size = w.heap.size + 1 + 1 + 1 := by rw [← hwd2]; exact hs3
  have h6 : At6 wd pb (po + i * 6) t a := by rw [← hwd2]; exact H6.out k
  have hLd : Lies B wd t a := by rw [← hwd2]; exact HL.out k
  rw [hwd2]
  clear hwd2 hwd r0 r1 r2 hb3 hs3 HW HI H6 HL
  have c4 := cell_of_row wd _ 4 _ _ _ q0
  have d0 := h6.c0
  have d1 := h6.c1
  have d2 := h6.c2
  have d3 := h6.c3
  have d4 := h6.c4
  have d5 := h6.c5
  clear h6
  go_wp2_with fail
  refine (HC.out B wd a hLd (by omega)).mono ?_
  rintro e w1 ⟨A1, he, hL1, hb1⟩
  replace he : e = .returned (.agg #[.int .i64 t.k, .bool t.b, .int .i64 t.n, .string t.s, .slice A1.pa t.m A1.pc, .slice A1.na t.q A1.nc]) := he
  subst he
  have q21 := (hb1.block _ (lt_of_row q2)).trans q2
  have hsz1 := hb1.size
  have b0 := cell_of_row w1 _ 0 _ _ _ q21
  have b1 := cell_of_row w1 _ 1 _ _ _ q21
  have b2 := cell_of_row w1 _ 2 _ _ _ q21
  have b3 := cell_of_row w1 _ 3 _ _ _ q21
  have b4 := cell_of_row w1 _ 4 _ _ _ q21
  have b5 := cell_of_row w1 _ 5 _ _ _ q21
  have y0 := frozen_of_row w1 _ 0 _ _ q21
  have y1 := frozen_of_row w1 _ 1 _ _ q21
  have y2 := frozen_of_row w1 _ 2 _ _ q21
  have y3 := frozen_of_row w1 _ 3 _ _ q21
  have y4 := frozen_of_row w1 _ 4 _ _ q21
  have y5 := frozen_of_row w1 _ 5 _ _ q21
  have hbb : Below w.heap.size w w1 := hbd.trans (hb1.mono (by omega))
  clear d0 d1 d2 d3 d4 d5 c4 hLd
  go_wp2
  change bodyPost _ _ _ _ _ (set6 w1 (w.heap.size + 1 + 1) (.int .i64 t.k) (.bool t.b) (.int .i64 t.n) (.string t.s) (.slice A1.pa t.m A1.pc) (.slice A1.na t.q A1.nc))
  have hro := set6_row q21 (.int .i64 t.k) (.bool t.b) (.int .i64 t.n) (.string t.s) (.slice A1.pa t.m A1.pc) (.slice A1.na t.q A1.nc)
  have hkeep : ∀ k1, k1 ≠ w.heap.size + 1 + 1 → (set6 w1 (w.heap.size + 1 + 1) (.int .i64 t.k) (.bool t.b) (.int .i64 t.n) (.string t.s) (.slice A1.pa t.m A1.pc) (.slice A1.na t.q A1.nc)).heap[k1]? = w1.heap[k1]? := fun k1 h1 => set6_block _ _ _ _ _ _ _ _ k1 h1
  have hsz := set6_size w1 (w.heap.size + 1 + 1) (.int .i64 t.k) (.bool t.b) (.int .i64 t.n) (.string t.s) (.slice A1.pa t.m A1.pc) (.slice A1.na t.q A1.nc)
  have hof := set6_below hbb (w.heap.size + 1 + 1) (by omega) (.int .i64 t.k) (.bool t.b) (.int .i64 t.n) (.string t.s) (.slice A1.pa t.m A1.pc) (.slice A1.na t.q A1.nc)
  obtain ⟨wf, hwf⟩ : ∃ wf, set6 w1 (w.heap.size + 1 + 1) (.int .i64 t.k) (.bool t.b) (.int .i64 t.n) (.string t.s) (.slice A1.pa t.m A1.pc) (.slice A1.na t.q A1.nc) = wf := ⟨_, rfl⟩
  rw [hwf] at hro hkeep hsz hof ⊢
  clear hwf
  have o0 := cell_of_row wf _ 0 _ _ _ hro
  have o1 := cell_of_row wf _ 1 _ _ _ hro
  have o2 := cell_of_row wf _ 2 _ _ _ hro
  have o3 := cell_of_row wf _ 3 _ _ _ hro
  have o4 := cell_of_row wf _ 4 _ _ _ hro
  have o5 := cell_of_row wf _ 5 _ _ _ hro
  refine bodyPost_ret (v := .agg #[.int .i64 t.k, .bool t.b, .int .i64 t.n, .string t.s, .slice A1.pa t.m A1.pc, .slice A1.na t.q A1.nc]) (by simp [results, Tryz.results55, go_sem, o0, o1, o2, o3, o4, o5]) rfl ⟨A1, rfl, ?_, hof⟩
  exact (hL1.kept (fun k1 hk => hkeep k1 (by omega))).up (fun k1 hk => ⟨by omega, by omega⟩)
end Go.Proofs.YtniljoojoafiaaaGreatDoor.V
namespace Go.Proofs.YtniljoojoafiaaaGreatDoor.V
open Go.RowKit
set_option maxRecDepth 100000 in
set_option maxHeartbeats 1000000 in
theorem vnone (w : World) : Calls Tryz.prog 83 #[] w fun r w' => r = .returned ((leafT 0 false 0 ⟨#[]⟩).val ⟨none, 0, none, 0⟩) ∧ Below w.heap.size w w' := by
  go_enter Tryz.func83, Tryz.ntmps83
  go_wp2
  exact bodyPost_ret (v := .agg #[.int .i64 0, .bool false, .int .i64 0, .string ⟨#[]⟩, .slice none 0 0, .slice none 0 0]) (by simp [results, Tryz.results83, go_sem]) rfl ⟨rfl, (Below.refl _ _).alloc (Nat.le_refl _) _⟩
set_option maxRecDepth 100000 in
set_option maxHeartbeats 1000000 in
theorem vint (n : Int) (w : World) : Calls Tryz.prog 22 #[.int .i64 n] w fun r w' => r = .returned ((leafT 2 false n ⟨#[]⟩).val ⟨none, 0, none, 0⟩) ∧ Below w.heap.size w w' := by
  go_enter Tryz.func22, Tryz.ntmps22
  go_wp2
  exact bodyPost_ret (v := .agg #[.int .i64 2, .bool false, .int .i64 n, .string ⟨#[]⟩, .slice none 0 0, .slice none 0 0]) (by simp [results, Tryz.results22, go_sem]) rfl ⟨rfl, (Below.refl _ _).alloc (Nat.le_refl _) _⟩
end Go.Proofs.YtniljoojoafiaaaGreatDoor.V
