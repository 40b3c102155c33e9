/- The part of a struct with a name (Get), where it is there. The simple values (None, Bool, Int, Str, Bytes). A value that has no part of a name (value.Get): None. -/
import Derived.Test.YtfcenidepkjdcaaDoorXaf
import Derived.Test.YtfcenidepkjdcaaDoorVCln
import Derived.Test.YtfcenidepkjdcaaDoorXac
import Derived.Test.YtfcenidepkjdcaaDoorXad
namespace Go.Proofs.YtfcenidepkjdcaaDoor.V
open Go.RowKit
set_option maxRecDepth 100000 in
theorem idx_get {b o q nc z : Nat} {g : Nat → ByteArray} {w : World} (s : ByteArray) (i : Int) (hq : q ≤ 64) (hz : w.cell? ⟨z, 0, none⟩ = some (.string s)) (hn : ∀ i, i < q → w.cell? ⟨b, o + i, none⟩ = some (.string (g i)))
    (hidx : Lib.idxBy (fun _ y => y.toList == s.toList) ((List.range q).map g) (default : ByteArray) = i) :
    Calls Tryd.prog 60 #[.slice (some ⟨b, o, none⟩) q nc, .func (.func 61) #[] #[.pointer (some ⟨z, 0, none⟩)]] w fun e w' => e = .returned (.int .i64 i) ∧ ∃ k, w' = w.drewN k := by
  have eg : ∀ args w, (callFunc 61 args).run Tryd.prog w = .ok (.enter 61 args) w := enters_of Tryd.func61 (by kernel_rfl) rfl
  have hzb := block_lt hz
  have hp : PredAt Tryd.prog 61 #[.pointer (some ⟨z, 0, none⟩)] Value.string (fun y : ByteArray => y.toList == s.toList) w := fun W x hb => by
    refine (get1 x s z W (cell_later hz hzb hb)).mono ?_
    rintro e w' ⟨rfl, rfl⟩
    exact ⟨rfl, 0, rfl⟩
  have hcon := AnyE.slices_IndexFunc idxL Value.string (fun y : ByteArray => y.toList == s.toList) 61 #[.pointer (some ⟨z, 0, none⟩)] eg b o q nc ((List.range q).map g) w hp (by simp) (by omega) (fun j hj => by
    have hj' : j < q := by simpa using hj
    rw [hn j hj', getElem!_pos _ j hj]
    simp)
  rw [List.take_of_length_le (by simp), hidx] at hcon
  exact hcon
set_option maxRecDepth 100000 in
set_option maxHeartbeats 4000000 in
theorem get_at {B : Nat} {w : World} {b : Bool} {n : Int} {s : ByteArray} {m : Nat} {f : Nat → Tr} {q : Nat} {g : Nat → ByteArray} {x : Ad} (hL : Lies B w (.mk 6 b n s m f q g) x) (hB : B ≤ w.heap.size) (name : ByteArray) (i : Nat) (hq0 : 0 < q) (hq : q ≤ 64) (him : i < m) (hsl : slimq (f i))
    (hidx : Lib.idxBy (fun _ y => y.toList == name.toList) ((List.range q).map g) (default : ByteArray) = (i : Int)) :
    Calls Tryd.prog 45 #[(Tr.mk 6 b n s m f q g).val x, .string name] w fun e w' => ∃ A, e = .returned ((f i).val A) ∧ LiesS (fun k => w.heap.size ≤ k ∧ k < w'.heap.size) w' (f i) A ∧ Below w.heap.size w w' := by
  obtain ⟨A, hp, hr⟩ := hL.part
  have hN := hL.lims
  replace hN : (-9223372036854775808 ≤ (6 : Int) ∧ (6 : Int) < 9223372036854775808) ∧ (-9223372036854775808 ≤ n ∧ n < 9223372036854775808) ∧ s.size ≤ maxLen ∧ (m ≤ x.pc ∧ x.pc ≤ maxLen) ∧ Names B w q g x.na x.nc := hN
  obtain ⟨pa, pc, na, nc⟩ := x
  obtain ⟨_, _, _, hm, hq1, hq2, hq3, hq4⟩ := hN
  obtain ⟨pb, po, rfl, hpb, hat⟩ : ∃ b o, pa = some ⟨b, o, none⟩ ∧ b < B ∧ ∀ i, i < m → At6 w b (o + i * 6) (f i) (A i) := hp (by omega)
  obtain ⟨nb, no, rfl, hnb, hnc⟩ : ∃ b o, na = some ⟨b, o, none⟩ ∧ b < B ∧ ∀ i, i < q → w.cell? ⟨b, o + i, none⟩ = some (.string (g i)) := hq4 hq0
  show Calls Tryd.prog 45 #[.agg #[.int .i64 6, .bool b, .int .i64 n, .string s, .slice (some ⟨pb, po, none⟩) m pc, .slice (some ⟨nb, no, none⟩) q nc], .string name] w _
  have HC : Hid (CloneC (f i)) := clone_all (f i) hsl
  obtain ⟨W3, hW3⟩ : ∃ W3, ((w.alloc (.cells #[.int .i64 6, .bool b, .int .i64 n, .string s, .slice (some ⟨pb, po, none⟩) m pc, .slice (some ⟨nb, no, none⟩) q nc] 29)).alloc (.cells #[.string name] 9)).alloc (.cells #[.int .i64 0, .bool false, .int .i64 0, .string ⟨#[]⟩, .slice none 0 0, .slice none 0 0] 29) = W3 := ⟨_, rfl⟩
  have hb3 : Below w.heap.size w W3 := by rw [← hW3]; exact (((Below.refl _ w).alloc (Nat.le_refl _) _).alloc (by simp) _).alloc (by simp; omega) _
  have hs3 : W3.heap.size = w.heap.size + 1 + 1 + 1 := by rw [← hW3]; simp
  have r1 : W3.cell? ⟨w.heap.size + 1, 0, none⟩ = some (.string name) := by
    have h1 := heap_alloc_new (w.alloc (.cells #[.int .i64 6, .bool b, .int .i64 n, .string s, .slice (some ⟨pb, po, none⟩) m pc, .slice (some ⟨nb, no, none⟩) q nc] 29)) (.cells #[.string name] 9)
    have h2 := Below.heap_alloc ((w.alloc (.cells #[.int .i64 6, .bool b, .int .i64 n, .string s, .slice (some ⟨pb, po, none⟩) m pc, .slice (some ⟨nb, no, none⟩) q nc] 29)).alloc (.cells #[.string name] 9)) (.cells #[.int .i64 0, .bool false, .int .i64 0, .string ⟨#[]⟩, .slice none 0 0, .slice none 0 0] 29) (w.heap.size + 1) (by simp)
    rw [hW3] at h2
    exact cell_of_row W3 _ 0 _ _ _ (h2.trans (by simpa using h1))
  have r0 : W3.heap[w.heap.size]? = some (.cells #[.int .i64 6, .bool b, .int .i64 n, .string s, .slice (some ⟨pb, po, none⟩) m pc, .slice (some ⟨nb, no, none⟩) q nc] 29 (0, 0)) := by
    rw [← hW3, Below.heap_alloc _ _ _ (by simp; omega), Below.heap_alloc _ _ _ (by simp)]
    exact heap_alloc_new _ _
  have r2 : W3.heap[w.heap.size + 1 + 1]? = some (.cells #[.int .i64 0, .bool false, .int .i64 0, .string ⟨#[]⟩, .slice none 0 0, .slice none 0 0] 29 (0, 0)) := by
    rw [← hW3]
    have := heap_alloc_new ((w.alloc (.cells #[.int .i64 6, .bool b, .int .i64 n, .string s, .slice (some ⟨pb, po, none⟩) m pc, .slice (some ⟨nb, no, none⟩) q nc] 29)).alloc (.cells #[.string name] 9)) (.cells #[.int .i64 0, .bool false, .int .i64 0, .string ⟨#[]⟩, .slice none 0 0, .slice none 0 0] 29)
    simpa using this
  have hidx2 := idx_get (nc := nc) name (i : Int) hq r1 (fun j hj => cell_later (hnc j hj) hnb (hb3.mono hB)) hidx
  have hwd : ∀ k, Below w.heap.size w (W3.drewN k) := fun k => ⟨hb3.os, hb3.tape, hb3.output, hb3.size, hb3.block⟩
  have h6a : ∀ k, At6 (W3.drewN k) pb (po + i * 6) (f i) (A i) := fun k => (hat i him).later hpb ((hwd k).mono hB)
  have hLi : ∀ k, Lies B (W3.drewN k) (f i) (A i) := fun k => (hr i him).later ((hwd k).mono hB)
  obtain ⟨t, ht⟩ : ∃ t, f i = t := ⟨_, rfl⟩
  rw [ht] at h6a hLi HC ⊢
  obtain ⟨a, ha⟩ : ∃ a, A i = a := ⟨_, rfl⟩
  rw [ha] at h6a hLi
  have HI : Hid (Calls Tryd.prog 60 #[.slice (some ⟨nb, no, none⟩) q nc, .func (.func 61) #[] #[.pointer (some ⟨w.heap.size + 1, 0, none⟩)]] W3 fun e w' => e = .returned (.int .i64 (i : Int)) ∧ ∃ k, w' = W3.drewN k) := hidx2
  have HW : Hid (((w.alloc (.cells #[.int .i64 6, .bool b, .int .i64 n, .string s, .slice (some ⟨pb, po, none⟩) m pc, .slice (some ⟨nb, no, none⟩) q nc] 29)).alloc (.cells #[.string name] 9)).alloc (.cells #[.int .i64 0, .bool false, .int .i64 0, .string ⟨#[]⟩, .slice none 0 0, .slice none 0 0] 29) = W3) := hW3
  have H6 : Hid (∀ k, At6 (W3.drewN k) pb (po + i * 6) t a) := h6a
  have HL : Hid (∀ k, Lies B (W3.drewN k) t a) := hLi
  have him' : (i : Int) < (m : Int) := by omega
  clear hidx2 hidx hp hr hL hat hnc hq4 hW3 h6a hLi
  go_enter Tryd.func45, Tryd.ntmps45
  go_wp2_with fail
  rw [HW.out]
  refine HI.out.mono ?_
  rintro e w1 ⟨rfl, k, rfl⟩
  obtain ⟨wd, hwd2⟩ : ∃ wd, W3.drewN k = wd := ⟨_, rfl⟩
  have q0 : wd.heap[w.heap.size]? = some (.cells #[.int .i64 6, .bool b, .int .i64 n, .string s, .slice (some ⟨pb, po, none⟩) m pc, .slice (some ⟨nb, no, none⟩) q nc] 29 (0, 0)) := by rw [← hwd2]; exact r0
  have q2 : wd.heap[w.heap.size + 1 + 1]? = some (.cells #[.int .i64 0, .bool false, .int .i64 0, .string ⟨#[]⟩, .slice none 0 0, .slice none 0 0] 29 (0, 0)) := by rw [← hwd2]; exact r2
  have hbd : Below w.heap.size w wd := by rw [← hwd2]; exact hwd k
  have hsd : wd.heap.size = w.heap.size + 1 + 1 + 1 := by rw [← hwd2]; exact hs3
  have h6 : At6 wd pb (po + i * 6) t a := by rw [← hwd2]; exact H6.out k
  have hLd : Lies B wd t a := by rw [← hwd2]; exact HL.out k
  rw [hwd2]
  clear hwd2 hwd r0 r1 r2 hb3 hs3 HW HI H6 HL
  have c4 := cell_of_row wd _ 4 _ _ _ q0
  have d0 := h6.c0
  have d1 := h6.c1
  have d2 := h6.c2
  have d3 := h6.c3
  have d4 := h6.c4
  have d5 := h6.c5
  clear h6
  go_wp2_with fail
  refine (HC.out B wd a hLd (by omega)).mono ?_
  rintro e w1 ⟨A1, he, hL1, hb1⟩
  replace he : e = .returned (.agg #[.int .i64 t.k, .bool t.b, .int .i64 t.n, .string t.s, .slice A1.pa t.m A1.pc, .slice A1.na t.q A1.nc]) := he
  subst he
  have q21 := (hb1.block _ (lt_of_row q2)).trans q2
  have hsz1 := hb1.size
  have b0 := cell_of_row w1 _ 0 _ _ _ q21
  have b1 := cell_of_row w1 _ 1 _ _ _ q21
  have b2 := cell_of_row w1 _ 2 _ _ _ q21
  have b3 := cell_of_row w1 _ 3 _ _ _ q21
  have b4 := cell_of_row w1 _ 4 _ _ _ q21
  have b5 := cell_of_row w1 _ 5 _ _ _ q21
  have y0 := frozen_of_row w1 _ 0 _ _ q21
  have y1 := frozen_of_row w1 _ 1 _ _ q21
  have y2 := frozen_of_row w1 _ 2 _ _ q21
  have y3 := frozen_of_row w1 _ 3 _ _ q21
  have y4 := frozen_of_row w1 _ 4 _ _ q21
  have y5 := frozen_of_row w1 _ 5 _ _ q21
  have hbb : Below w.heap.size w w1 := hbd.trans (hb1.mono (by omega))
  clear d0 d1 d2 d3 d4 d5 c4 hLd
  go_wp2
  change bodyPost _ _ _ _ _ (set6 w1 (w.heap.size + 1 + 1) (.int .i64 t.k) (.bool t.b) (.int .i64 t.n) (.string t.s) (.slice A1.pa t.m A1.pc) (.slice A1.na t.q A1.nc))
  have hro := set6_row q21 (.int .i64 t.k) (.bool t.b) (.int .i64 t.n) (.string t.s) (.slice A1.pa t.m A1.pc) (.slice A1.na t.q A1.nc)
  have hkeep : ∀ k1, k1 ≠ w.heap.size + 1 + 1 → (set6 w1 (w.heap.size + 1 + 1) (.int .i64 t.k) (.bool t.b) (.int .i64 t.n) (.string t.s) (.slice A1.pa t.m A1.pc) (.slice A1.na t.q A1.nc)).heap[k1]? = w1.heap[k1]? := fun k1 h1 => set6_block _ _ _ _ _ _ _ _ k1 h1
  have hsz := set6_size w1 (w.heap.size + 1 + 1) (.int .i64 t.k) (.bool t.b) (.int .i64 t.n) (.string t.s) (.slice A1.pa t.m A1.pc) (.slice A1.na t.q A1.nc)
  have hof := set6_below hbb (w.heap.size + 1 + 1) (by omega) (.int .i64 t.k) (.bool t.b) (.int .i64 t.n) (.string t.s) (.slice A1.pa t.m A1.pc) (.slice A1.na t.q A1.nc)
  obtain ⟨wf, hwf⟩ : ∃ wf, set6 w1 (w.heap.size + 1 + 1) (.int .i64 t.k) (.bool t.b) (.int .i64 t.n) (.string t.s) (.slice A1.pa t.m A1.pc) (.slice A1.na t.q A1.nc) = wf := ⟨_, rfl⟩
  rw [hwf] at hro hkeep hsz hof ⊢
  clear hwf
  have o0 := cell_of_row wf _ 0 _ _ _ hro
  have o1 := cell_of_row wf _ 1 _ _ _ hro
  have o2 := cell_of_row wf _ 2 _ _ _ hro
  have o3 := cell_of_row wf _ 3 _ _ _ hro
  have o4 := cell_of_row wf _ 4 _ _ _ hro
  have o5 := cell_of_row wf _ 5 _ _ _ hro
  refine bodyPost_ret (v := .agg #[.int .i64 t.k, .bool t.b, .int .i64 t.n, .string t.s, .slice A1.pa t.m A1.pc, .slice A1.na t.q A1.nc]) (by simp [results, Tryd.results45, go_sem, o0, o1, o2, o3, o4, o5]) rfl ⟨A1, rfl, ?_, hof⟩
  exact (hL1.kept (fun k1 hk => hkeep k1 (by omega))).up (fun k1 hk => ⟨by omega, by omega⟩)
end Go.Proofs.YtfcenidepkjdcaaDoor.V
namespace Go.Proofs.YtfcenidepkjdcaaDoor.V
open Go.RowKit
set_option maxRecDepth 100000 in
set_option maxHeartbeats 1000000 in
theorem vnone (w : World) : Calls Tryd.prog 59 #[] w fun r w' => r = .returned ((leafT 0 false 0 ⟨#[]⟩).val ⟨none, 0, none, 0⟩) ∧ Below w.heap.size w w' := by
  go_enter Tryd.func59, Tryd.ntmps59
  go_wp2
  exact bodyPost_ret (v := .agg #[.int .i64 0, .bool false, .int .i64 0, .string ⟨#[]⟩, .slice none 0 0, .slice none 0 0]) (by simp [results, Tryd.results59, go_sem]) rfl ⟨rfl, (Below.refl _ _).alloc (Nat.le_refl _) _⟩
set_option maxRecDepth 100000 in
set_option maxHeartbeats 1000000 in
theorem vint (n : Int) (w : World) : Calls Tryd.prog 17 #[.int .i64 n] w fun r w' => r = .returned ((leafT 2 false n ⟨#[]⟩).val ⟨none, 0, none, 0⟩) ∧ Below w.heap.size w w' := by
  go_enter Tryd.func17, Tryd.ntmps17
  go_wp2
  exact bodyPost_ret (v := .agg #[.int .i64 2, .bool false, .int .i64 n, .string ⟨#[]⟩, .slice none 0 0, .slice none 0 0]) (by simp [results, Tryd.results17, go_sem]) rfl ⟨rfl, (Below.refl _ _).alloc (Nat.le_refl _) _⟩
end Go.Proofs.YtfcenidepkjdcaaDoor.V
namespace Go.Proofs.YtfcenidepkjdcaaDoor
open Go.RowKit Go.Shelf
attribute [local go_sem] Oper.semAt_some
theorem info34 : (Tryd.prog.info? 29).map (·.size) = some 6 := by kernel_rfl
def noneA : Array Value := #[.int .i64 0, .bool false, .int .i64 0, .string ⟨#[]⟩, .slice none 0 0, .slice none 0 0]
theorem none_call (w : World) : Calls Tryd.prog 59 #[] w fun r w' => r = .returned (.agg noneA) ∧ Below w.heap.size w w' := V.vnone w
set_option maxRecDepth 100000 in
set_option maxHeartbeats 4000000 in
theorem get_kind {w : World} (t : V.Tr) (x : V.Ad) (name : ByteArray) (hk : t.k ≠ 6) :
    Calls Tryd.prog 45 #[t.val x, .string name] w fun e w' => e = .returned (.agg noneA) ∧ Below w.heap.size w w' := by
  show Calls Tryd.prog 45 #[.agg #[.int .i64 t.k, .bool t.b, .int .i64 t.n, .string t.s, .slice x.pa t.m x.pc, .slice x.na t.q x.nc], .string name] w _
  obtain ⟨W3, hW3⟩ : ∃ W3, ((w.alloc (.cells #[.int .i64 t.k, .bool t.b, .int .i64 t.n, .string t.s, .slice x.pa t.m x.pc, .slice x.na t.q x.nc] 29)).alloc (.cells #[.string name] 9)).alloc (.cells #[.int .i64 0, .bool false, .int .i64 0, .string ⟨#[]⟩, .slice none 0 0, .slice none 0 0] 29) = W3 := ⟨_, rfl⟩
  have hb3 : Below w.heap.size w W3 := by rw [← hW3]; exact (((Below.refl _ w).alloc (Nat.le_refl _) _).alloc (by simp) _).alloc (by simp; omega) _
  have hs3 : W3.heap.size = w.heap.size + 1 + 1 + 1 := by rw [← hW3]; simp
  have r2 : W3.heap[w.heap.size + 1 + 1]? = some (.cells noneA 29 (0, 0)) := by
    rw [← hW3]
    have := heap_alloc_new ((w.alloc (.cells #[.int .i64 t.k, .bool t.b, .int .i64 t.n, .string t.s, .slice x.pa t.m x.pc, .slice x.na t.q x.nc] 29)).alloc (.cells #[.string name] 9)) (.cells #[.int .i64 0, .bool false, .int .i64 0, .string ⟨#[]⟩, .slice none 0 0, .slice none 0 0] 29)
    simpa [noneA] using this
  have HW : Hid (((w.alloc (.cells #[.int .i64 t.k, .bool t.b, .int .i64 t.n, .string t.s, .slice x.pa t.m x.pc, .slice x.na t.q x.nc] 29)).alloc (.cells #[.string name] 9)).alloc (.cells #[.int .i64 0, .bool false, .int .i64 0, .string ⟨#[]⟩, .slice none 0 0, .slice none 0 0] 29) = W3) := hW3
  clear hW3
  go_enter Tryd.func45, Tryd.ntmps45
  go_wp2_with fail
  rw [HW.out]
  refine (none_call W3).mono ?_
  rintro e w1 ⟨rfl, hb1⟩
  have q2 := (hb1.block _ (by omega)).trans r2
  have hbb : Below w.heap.size w w1 := hb3.trans (hb1.mono (by omega))
  have HN : Hid (w1.heap[w.heap.size + 1 + 1]? = some (.cells noneA 29 (0, 0)) ∧ Below w.heap.size w w1) := ⟨q2, hbb⟩
  clear q2 hbb hb1 r2 hb3 hs3 HW
  go_wp2_with (first | (refine wpList_put rfl 29 (.tmp 4) (.tmp 9) rfl rfl rfl rfl HN.out.1 rfl info34 (by simp [noneA, Value.oneCell']) ?_) | fail)
  exact bodyPost_ret (results_cell_row Tryd.results45 _ _ (w.heap.size + 1 + 1) 29 _ (0, 0) _ rfl (put_row _ HN.out.1 rfl) Tryd.underlying29 rfl info34) rfl ⟨rfl, put_below HN.out.2 _ (by omega) _⟩
set_option maxRecDepth 100000 in
set_option maxHeartbeats 4000000 in
theorem get_gone {B : Nat} {w : World} {b : Bool} {n : Int} {s : ByteArray} {m : Nat} {f : Nat → V.Tr} {q : Nat} {g : Nat → ByteArray} {x : V.Ad} (hL : V.Lies B w (.mk 6 b n s m f q g) x) (hB : B ≤ w.heap.size) (name : ByteArray) (i : Int) (hq : q ≤ 64) (him : i < 0 ∨ (m : Int) ≤ i)
    (hidx : Lib.idxBy (fun _ y => y.toList == name.toList) ((List.range q).map g) (default : ByteArray) = i) :
    Calls Tryd.prog 45 #[(V.Tr.mk 6 b n s m f q g).val x, .string name] w fun e w' => e = .returned (.agg noneA) ∧ Below w.heap.size w w' := by
  have hN := hL.lims
  replace hN : (-9223372036854775808 ≤ (6 : Int) ∧ (6 : Int) < 9223372036854775808) ∧ (-9223372036854775808 ≤ n ∧ n < 9223372036854775808) ∧ s.size ≤ maxLen ∧ (m ≤ x.pc ∧ x.pc ≤ maxLen) ∧ V.Names B w q g x.na x.nc := hN
  obtain ⟨_, _, _, hm, hq1, hq2, hq3, hq4⟩ := hN
  show Calls Tryd.prog 45 #[.agg #[.int .i64 6, .bool b, .int .i64 n, .string s, .slice x.pa m x.pc, .slice x.na q x.nc], .string name] w _
  obtain ⟨W3, hW3⟩ : ∃ W3, ((w.alloc (.cells #[.int .i64 6, .bool b, .int .i64 n, .string s, .slice x.pa m x.pc, .slice x.na q x.nc] 29)).alloc (.cells #[.string name] 9)).alloc (.cells #[.int .i64 0, .bool false, .int .i64 0, .string ⟨#[]⟩, .slice none 0 0, .slice none 0 0] 29) = W3 := ⟨_, rfl⟩
  have hb3 : Below w.heap.size w W3 := by rw [← hW3]; exact (((Below.refl _ w).alloc (Nat.le_refl _) _).alloc (by simp) _).alloc (by simp; omega) _
  have hs3 : W3.heap.size = w.heap.size + 1 + 1 + 1 := by rw [← hW3]; simp
  have r1 : W3.cell? ⟨w.heap.size + 1, 0, none⟩ = some (.string name) := by
    have h1 := heap_alloc_new (w.alloc (.cells #[.int .i64 6, .bool b, .int .i64 n, .string s, .slice x.pa m x.pc, .slice x.na q x.nc] 29)) (.cells #[.string name] 9)
    have h2 := Below.heap_alloc ((w.alloc (.cells #[.int .i64 6, .bool b, .int .i64 n, .string s, .slice x.pa m x.pc, .slice x.na q x.nc] 29)).alloc (.cells #[.string name] 9)) (.cells #[.int .i64 0, .bool false, .int .i64 0, .string ⟨#[]⟩, .slice none 0 0, .slice none 0 0] 29) (w.heap.size + 1) (by simp)
    rw [hW3] at h2
    exact cell_of_row W3 _ 0 _ _ _ (h2.trans (by simpa using h1))
  have r0 : W3.heap[w.heap.size]? = some (.cells #[.int .i64 6, .bool b, .int .i64 n, .string s, .slice x.pa m x.pc, .slice x.na q x.nc] 29 (0, 0)) := by
    rw [← hW3, Below.heap_alloc _ _ _ (by simp; omega), Below.heap_alloc _ _ _ (by simp)]
    exact heap_alloc_new _ _
  have r2 : W3.heap[w.heap.size + 1 + 1]? = some (.cells noneA 29 (0, 0)) := by
    rw [← hW3]
    have := heap_alloc_new ((w.alloc (.cells #[.int .i64 6, .bool b, .int .i64 n, .string s, .slice x.pa m x.pc, .slice x.na q x.nc] 29)).alloc (.cells #[.string name] 9)) (.cells #[.int .i64 0, .bool false, .int .i64 0, .string ⟨#[]⟩, .slice none 0 0, .slice none 0 0] 29)
    simpa [noneA] using this
  have hidx2 : Calls Tryd.prog 60 #[.slice x.na q x.nc, .func (.func 61) #[] #[.pointer (some ⟨w.heap.size + 1, 0, none⟩)]] W3 fun e w' => e = .returned (.int .i64 i) ∧ ∃ k, w' = W3.drewN k := by
    by_cases h0 : 0 < q
    · obtain ⟨nb, no, ha, hnb, hnc⟩ : ∃ b o, x.na = some ⟨b, o, none⟩ ∧ b < B ∧ ∀ i, i < q → w.cell? ⟨b, o + i, none⟩ = some (.string (g i)) := hq4 h0
      rw [ha]
      exact V.idx_get (nc := x.nc) name i hq r1 (fun j hj => V.cell_later (hnc j hj) hnb (hb3.mono hB)) hidx
    · obtain rfl : q = 0 := by omega
      have hi : i = -1 := by rw [← hidx]; rfl
      rw [hi]
      refine (AnyE.slices_IndexFunc_empty V.idxL x.na x.nc _ W3).mono ?_
      rintro e w' ⟨rfl, rfl⟩
      exact ⟨rfl, 0, rfl⟩
  have HI : Hid (Calls Tryd.prog 60 #[.slice x.na q x.nc, .func (.func 61) #[] #[.pointer (some ⟨w.heap.size + 1, 0, none⟩)]] W3 fun e w' => e = .returned (.int .i64 i) ∧ ∃ k, w' = W3.drewN k) := hidx2
  have HW : Hid (((w.alloc (.cells #[.int .i64 6, .bool b, .int .i64 n, .string s, .slice x.pa m x.pc, .slice x.na q x.nc] 29)).alloc (.cells #[.string name] 9)).alloc (.cells #[.int .i64 0, .bool false, .int .i64 0, .string ⟨#[]⟩, .slice none 0 0, .slice none 0 0] 29) = W3) := hW3
  have hwd : ∀ k, Below w.heap.size w (W3.drewN k) := fun k => ⟨hb3.os, hb3.tape, hb3.output, hb3.size, hb3.block⟩
  clear hidx2 hidx hL hq4 hW3
  go_enter Tryd.func45, Tryd.ntmps45
  go_wp2_with fail
  rw [HW.out]
  refine HI.out.mono ?_
  rintro e w1 ⟨rfl, k, rfl⟩
  obtain ⟨wd, hwd2⟩ : ∃ wd, W3.drewN k = wd := ⟨_, rfl⟩
  have q0 : wd.heap[w.heap.size]? = some (.cells #[.int .i64 6, .bool b, .int .i64 n, .string s, .slice x.pa m x.pc, .slice x.na q x.nc] 29 (0, 0)) := by rw [← hwd2]; exact r0
  have q2 : wd.heap[w.heap.size + 1 + 1]? = some (.cells noneA 29 (0, 0)) := by rw [← hwd2]; exact r2
  have hbd : Below w.heap.size w wd := by rw [← hwd2]; exact hwd k
  have hsd : wd.heap.size = w.heap.size + 1 + 1 + 1 := by rw [← hwd2]; exact hs3
  rw [hwd2]
  clear hwd2 hwd r0 r1 r2 hb3 hs3 HW HI
  have c4 := cell_of_row wd _ 4 _ _ _ q0
  have HQ : Hid (wd.heap[w.heap.size + 1 + 1]? = some (.cells noneA 29 (0, 0)) ∧ Below w.heap.size w wd ∧ wd.heap.size = w.heap.size + 1 + 1 + 1) := ⟨q2, hbd, hsd⟩
  clear q0 q2 hbd hsd
  have fin : ∀ (w1 : World), Below wd.heap.size wd w1 → Hid (w1.heap[w.heap.size + 1 + 1]? = some (.cells noneA 29 (0, 0)) ∧ Below w.heap.size w w1) := fun w1 hb1 => by
    have hz := HQ.out.2.2
    exact ⟨(hb1.block _ (by omega)).trans HQ.out.1, HQ.out.2.1.trans (hb1.mono (by omega))⟩
  by_cases hi0 : i < 0
  · go_wp2_with fail
    refine (none_call wd).mono ?_
    rintro e w1 ⟨rfl, hb1⟩
    have HN := fin w1 hb1
    clear fin hb1 c4
    go_wp2_with (first | (refine wpList_put rfl 29 (.tmp 4) (.tmp 23) rfl rfl rfl rfl HN.out.1 rfl info34 (by simp [noneA, Value.oneCell']) ?_) | fail)
    exact bodyPost_ret (results_cell_row Tryd.results45 _ _ (w.heap.size + 1 + 1) 29 _ (0, 0) _ rfl (put_row _ HN.out.1 rfl) Tryd.underlying29 rfl info34) rfl ⟨rfl, put_below HN.out.2 _ (by omega) _⟩
  · have him' : (m : Int) ≤ i := by omega
    go_wp2_with fail
    refine (none_call wd).mono ?_
    rintro e w1 ⟨rfl, hb1⟩
    have HN := fin w1 hb1
    clear fin hb1 c4
    go_wp2_with (first | (refine wpList_put rfl 29 (.tmp 4) (.tmp 23) rfl rfl rfl rfl HN.out.1 rfl info34 (by simp [noneA, Value.oneCell']) ?_) | fail)
    exact bodyPost_ret (results_cell_row Tryd.results45 _ _ (w.heap.size + 1 + 1) 29 _ (0, 0) _ rfl (put_row _ HN.out.1 rfl) Tryd.underlying29 rfl info34) rfl ⟨rfl, put_below HN.out.2 _ (by omega) _⟩
end Go.Proofs.YtfcenidepkjdcaaDoor
