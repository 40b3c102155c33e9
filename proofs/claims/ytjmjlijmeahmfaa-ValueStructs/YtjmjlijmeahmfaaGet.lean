/- The part of a struct with a name (Get), where it is there. -/
import Derived.Test.YtjmjlijmeahmfaaSrt
import Derived.Test.YtjmjlijmeahmfaaCln
namespace Go.Proofs.Ytjmjlijmeahmfaa
open Go.RowKit
theorem idx_get {b o q nc z : Nat} {g : Nat → ByteArray} {w : World} (s : ByteArray) (i : Int) (hq : q ≤ 64) (hz : w.cell? ⟨z, 0, none⟩ = some (.string s)) (hn : ∀ i, i < q → w.cell? ⟨b, o + i, none⟩ = some (.string (g i)))
    (hidx : Lib.idxBy (fun _ y => y.toList == s.toList) ((List.range q).map g) (default : ByteArray) = i) :
    Calls Try.prog 61 #[.slice (some ⟨b, o, none⟩) q nc, .func (.func 62) #[] #[.pointer (some ⟨z, 0, none⟩)]] w fun e w' => e = .returned (.int .i64 i) ∧ ∃ k, w' = w.drewN k := by
  have eg : ∀ args w, (callFunc 62 args).run Try.prog w = .ok (.enter 62 args) w := enters_of Try.func62 (by kernel_rfl) rfl
  have hzb := block_lt hz
  have hp : PredAt Try.prog 62 #[.pointer (some ⟨z, 0, none⟩)] Value.string (fun y : ByteArray => y.toList == s.toList) w := fun W x hb => by
    refine (get1 x s z W (cell_later hz hzb hb)).mono ?_
    rintro e w' ⟨rfl, rfl⟩
    exact ⟨rfl, 0, rfl⟩
  have hcon := AnyE.slices_IndexFunc idxL Value.string (fun y : ByteArray => y.toList == s.toList) 62 #[.pointer (some ⟨z, 0, none⟩)] eg b o q nc ((List.range q).map g) w hp (by simp) (by omega) (fun j hj => by
    have hj' : j < q := by simpa using hj
    rw [hn j hj', getElem!_pos _ j hj]
    simp)
  rw [List.take_of_length_le (by simp), hidx] at hcon
  exact hcon
set_option maxRecDepth 100000 in
set_option maxHeartbeats 4000000 in
theorem get_at {B : Nat} {w : World} {b : Bool} {n : Int} {s : ByteArray} {m : Nat} {f : Nat → Tr} {q : Nat} {g : Nat → ByteArray} {x : Ad} (hL : Lies B w (.mk 6 b n s m f q g) x) (hB : B ≤ w.heap.size) (name : ByteArray) (i : Nat) (hq0 : 0 < q) (hq : q ≤ 64) (him : i < m) (hsl : slimq (f i))
    (hidx : Lib.idxBy (fun _ y => y.toList == name.toList) ((List.range q).map g) (default : ByteArray) = (i : Int)) :
    Calls Try.prog 28 #[(Tr.mk 6 b n s m f q g).val x, .string name] w fun e w' => ∃ A, e = .returned ((f i).val A) ∧ LiesS (fun k => w.heap.size ≤ k ∧ k < w'.heap.size) w' (f i) A ∧ Below w.heap.size w w' := by
  obtain ⟨A, hp, hr⟩ := hL.part
  have hN := hL.lims
  replace hN : (-9223372036854775808 ≤ (6 : Int) ∧ (6 : Int) < 9223372036854775808) ∧ (-9223372036854775808 ≤ n ∧ n < 9223372036854775808) ∧ s.size ≤ maxLen ∧ (m ≤ x.pc ∧ x.pc ≤ maxLen) ∧ Names B w q g x.na x.nc := hN
  obtain ⟨pa, pc, na, nc⟩ := x
  obtain ⟨_, _, _, hm, hq1, hq2, hq3, hq4⟩ := hN
  obtain ⟨pb, po, rfl, hpb, hat⟩ : ∃ b o, pa = some ⟨b, o, none⟩ ∧ b < B ∧ ∀ i, i < m → At6 w b (o + i * 6) (f i) (A i) := hp (by omega)
  obtain ⟨nb, no, rfl, hnb, hnc⟩ : ∃ b o, na = some ⟨b, o, none⟩ ∧ b < B ∧ ∀ i, i < q → w.cell? ⟨b, o + i, none⟩ = some (.string (g i)) := hq4 hq0
  show Calls Try.prog 28 #[.agg #[.int .i64 6, .bool b, .int .i64 n, .string s, .slice (some ⟨pb, po, none⟩) m pc, .slice (some ⟨nb, no, none⟩) q nc], .string name] w _
  have HC : Hid (CloneC (f i)) := clone_all (f i) hsl
  obtain ⟨W3, hW3⟩ : ∃ W3, ((w.alloc (.cells #[.int .i64 6, .bool b, .int .i64 n, .string s, .slice (some ⟨pb, po, none⟩) m pc, .slice (some ⟨nb, no, none⟩) q nc] 25)).alloc (.cells #[.string name] 9)).alloc (.cells #[.int .i64 0, .bool false, .int .i64 0, .string ⟨#[]⟩, .slice none 0 0, .slice none 0 0] 25) = W3 := ⟨_, rfl⟩
  have hb3 : Below w.heap.size w W3 := by rw [← hW3]; exact (((Below.refl _ w).alloc (Nat.le_refl _) _).alloc (by simp) _).alloc (by simp; omega) _
  have hs3 : W3.heap.size = w.heap.size + 1 + 1 + 1 := by rw [← hW3]; simp
  have r1 : W3.cell? ⟨w.heap.size + 1, 0, none⟩ = some (.string name) := by
    have h1 := heap_alloc_new (w.alloc (.cells #[.int .i64 6, .bool b, .int .i64 n, .string s, .slice (some ⟨pb, po, none⟩) m pc, .slice (some ⟨nb, no, none⟩) q nc] 25)) (.cells #[.string name] 9)
    have h2 := Below.heap_alloc ((w.alloc (.cells #[.int .i64 6, .bool b, .int .i64 n, .string s, .slice (some ⟨pb, po, none⟩) m pc, .slice (some ⟨nb, no, none⟩) q nc] 25)).alloc (.cells #[.string name] 9)) (.cells #[.int .i64 0, .bool false, .int .i64 0, .string ⟨#[]⟩, .slice none 0 0, .slice none 0 0] 25) (w.heap.size + 1) (by simp)
    rw [hW3] at h2
    exact cell_of_row W3 _ 0 _ _ _ (h2.trans (by simpa using h1))
  have r0 : W3.heap[w.heap.size]? = some (.cells #[.int .i64 6, .bool b, .int .i64 n, .string s, .slice (some ⟨pb, po, none⟩) m pc, .slice (some ⟨nb, no, none⟩) q nc] 25 (0, 0)) := by
    rw [← hW3, Below.heap_alloc _ _ _ (by simp; omega), Below.heap_alloc _ _ _ (by simp)]
    exact heap_alloc_new _ _
  have r2 : W3.heap[w.heap.size + 1 + 1]? = some (.cells #[.int .i64 0, .bool false, .int .i64 0, .string ⟨#[]⟩, .slice none 0 0, .slice none 0 0] 25 (0, 0)) := by
    rw [← hW3]
    have := heap_alloc_new ((w.alloc (.cells #[.int .i64 6, .bool b, .int .i64 n, .string s, .slice (some ⟨pb, po, none⟩) m pc, .slice (some ⟨nb, no, none⟩) q nc] 25)).alloc (.cells #[.string name] 9)) (.cells #[.int .i64 0, .bool false, .int .i64 0, .string ⟨#[]⟩, .slice none 0 0, .slice none 0 0] 25)
    simpa using this
  have hidx2 := idx_get (nc := nc) name (i : Int) hq r1 (fun j hj => cell_later (hnc j hj) hnb (hb3.mono hB)) hidx
  have hwd : ∀ k, Below w.heap.size w (W3.drewN k) := fun k => ⟨hb3.os, hb3.tape, hb3.output, hb3.size, hb3.block⟩
  have h6a : ∀ k, At6 (W3.drewN k) pb (po + i * 6) (f i) (A i) := fun k => (hat i him).later hpb ((hwd k).mono hB)
  have hLi : ∀ k, Lies B (W3.drewN k) (f i) (A i) := fun k => (hr i him).later ((hwd k).mono hB)
  obtain ⟨t, ht⟩ : ∃ t, f i = t := ⟨_, rfl⟩
  rw [ht] at h6a hLi HC ⊢
  obtain ⟨a, ha⟩ : ∃ a, A i = a := ⟨_, rfl⟩
  rw [ha] at h6a hLi
  have HI : Hid (Calls Try.prog 61 #[.slice (some ⟨nb, no, none⟩) q nc, .func (.func 62) #[] #[.pointer (some ⟨w.heap.size + 1, 0, none⟩)]] W3 fun e w' => e = .returned (.int .i64 (i : Int)) ∧ ∃ k, w' = W3.drewN k) := hidx2
  have HW : Hid (((w.alloc (.cells #[.int .i64 6, .bool b, .int .i64 n, .string s, .slice (some ⟨pb, po, none⟩) m pc, .slice (some ⟨nb, no, none⟩) q nc] 25)).alloc (.cells #[.string name] 9)).alloc (.cells #[.int .i64 0, .bool false, .int .i64 0, .string ⟨#[]⟩, .slice none 0 0, .slice none 0 0] 25) = W3) := hW3
  have H6 : Hid (∀ k, At6 (W3.drewN k) pb (po + i * 6) t a) := h6a
  have HL : Hid (∀ k, Lies B (W3.drewN k) t a) := hLi
  have him' : (i : Int) < (m : Int) := by omega
  clear hidx2 hidx hp hr hL hat hnc hq4 hW3 h6a hLi
  go_enter Try.func28, Try.ntmps28
  go_wp2_with fail
  rw [HW.out]
  refine HI.out.mono ?_
  rintro e w1 ⟨rfl, k, rfl⟩
  obtain ⟨wd, hwd2⟩ : ∃ wd, W3.drewN k = wd := ⟨_, rfl⟩
  have q0 : wd.heap[w.heap.size]? = some (.cells #[.int .i64 6, .bool b, .int .i64 n, .string s, .slice (some ⟨pb, po, none⟩) m pc, .slice (some ⟨nb, no, none⟩) q nc] 25 (0, 0)) := by rw [← hwd2]; exact r0
  have q2 : wd.heap[w.heap.size + 1 + 1]? = some (.cells #[.int .i64 0, .bool false, .int .i64 0, .string ⟨#[]⟩, .slice none 0 0, .slice none 0 0] 25 (0, 0)) := by rw [← hwd2]; exact r2
  have hbd : Below w.heap.size w wd := by rw [← hwd2]; exact hwd k
  have hsd : wd.heap.size = w.heap.size + 1 + 1 + 1 := by rw [← hwd2]; exact hs3
  have h6 : At6 wd pb (po + i * 6) t a := by rw [← hwd2]; exact H6.out k
  have hLd : Lies B wd t a := by rw [← hwd2]; exact HL.out k
  rw [hwd2]
  clear hwd2 hwd r0 r1 r2 hb3 hs3 HW HI H6 HL
  have c4 := cell_of_row wd _ 4 _ _ _ q0
  have d0 := h6.c0
  have d1 := h6.c1
  have d2 := h6.c2
  have d3 := h6.c3
  have d4 := h6.c4
  have d5 := h6.c5
  clear h6
  go_wp2_with fail
  refine (HC.out B wd a hLd (by omega)).mono ?_
  rintro e w1 ⟨A1, he, hL1, hb1⟩
  replace he : e = .returned (.agg #[.int .i64 t.k, .bool t.b, .int .i64 t.n, .string t.s, .slice A1.pa t.m A1.pc, .slice A1.na t.q A1.nc]) := he
  subst he
  have q21 := (hb1.block _ (lt_of_row q2)).trans q2
  have hsz1 := hb1.size
  have b0 := cell_of_row w1 _ 0 _ _ _ q21
  have b1 := cell_of_row w1 _ 1 _ _ _ q21
  have b2 := cell_of_row w1 _ 2 _ _ _ q21
  have b3 := cell_of_row w1 _ 3 _ _ _ q21
  have b4 := cell_of_row w1 _ 4 _ _ _ q21
  have b5 := cell_of_row w1 _ 5 _ _ _ q21
  have y0 := frozen_of_row w1 _ 0 _ _ q21
  have y1 := frozen_of_row w1 _ 1 _ _ q21
  have y2 := frozen_of_row w1 _ 2 _ _ q21
  have y3 := frozen_of_row w1 _ 3 _ _ q21
  have y4 := frozen_of_row w1 _ 4 _ _ q21
  have y5 := frozen_of_row w1 _ 5 _ _ q21
  have hbb : Below w.heap.size w w1 := hbd.trans (hb1.mono (by omega))
  clear d0 d1 d2 d3 d4 d5 c4 hLd
  go_wp2
  change bodyPost _ _ _ _ _ (set6 w1 (w.heap.size + 1 + 1) (.int .i64 t.k) (.bool t.b) (.int .i64 t.n) (.string t.s) (.slice A1.pa t.m A1.pc) (.slice A1.na t.q A1.nc))
  have hro := set6_row q21 (.int .i64 t.k) (.bool t.b) (.int .i64 t.n) (.string t.s) (.slice A1.pa t.m A1.pc) (.slice A1.na t.q A1.nc)
  have hkeep : ∀ k1, k1 ≠ w.heap.size + 1 + 1 → (set6 w1 (w.heap.size + 1 + 1) (.int .i64 t.k) (.bool t.b) (.int .i64 t.n) (.string t.s) (.slice A1.pa t.m A1.pc) (.slice A1.na t.q A1.nc)).heap[k1]? = w1.heap[k1]? := fun k1 h1 => set6_block _ _ _ _ _ _ _ _ k1 h1
  have hsz := set6_size w1 (w.heap.size + 1 + 1) (.int .i64 t.k) (.bool t.b) (.int .i64 t.n) (.string t.s) (.slice A1.pa t.m A1.pc) (.slice A1.na t.q A1.nc)
  have hof := set6_below hbb (w.heap.size + 1 + 1) (by omega) (.int .i64 t.k) (.bool t.b) (.int .i64 t.n) (.string t.s) (.slice A1.pa t.m A1.pc) (.slice A1.na t.q A1.nc)
  obtain ⟨wf, hwf⟩ : ∃ wf, set6 w1 (w.heap.size + 1 + 1) (.int .i64 t.k) (.bool t.b) (.int .i64 t.n) (.string t.s) (.slice A1.pa t.m A1.pc) (.slice A1.na t.q A1.nc) = wf := ⟨_, rfl⟩
  rw [hwf] at hro hkeep hsz hof ⊢
  clear hwf
  have o0 := cell_of_row wf _ 0 _ _ _ hro
  have o1 := cell_of_row wf _ 1 _ _ _ hro
  have o2 := cell_of_row wf _ 2 _ _ _ hro
  have o3 := cell_of_row wf _ 3 _ _ _ hro
  have o4 := cell_of_row wf _ 4 _ _ _ hro
  have o5 := cell_of_row wf _ 5 _ _ _ hro
  refine bodyPost_ret (v := .agg #[.int .i64 t.k, .bool t.b, .int .i64 t.n, .string t.s, .slice A1.pa t.m A1.pc, .slice A1.na t.q A1.nc]) (by simp [results, Try.results28, go_sem, o0, o1, o2, o3, o4, o5]) rfl ⟨A1, rfl, ?_, hof⟩
  exact (hL1.kept (fun k1 hk => hkeep k1 (by omega))).up (fun k1 hk => ⟨by omega, by omega⟩)
end Go.Proofs.Ytjmjlijmeahmfaa
