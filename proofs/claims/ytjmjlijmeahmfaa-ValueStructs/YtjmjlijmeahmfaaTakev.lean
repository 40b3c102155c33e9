/- A value, taken of bytes (take). -/
import Derived.Test.YtjmjlijmeahmfaaTakep
import Derived.Test.YtjmjlijmeahmfaaLes
import Derived.BigGuardPart
namespace Go.Proofs.Ytjmjlijmeahmfaa
open Go.RowKit
theorem textA_size {s : ByteArray} {o : Nat} {er m : Int} : (textA s o er m).v.size ≤ s.size := by
  unfold textA
  split
  · split
    · split
      · exact Nat.zero_le _
      · simp; omega
    · exact Nat.zero_le _
  · exact Nat.zero_le _
theorem countA_v {s : ByteArray} {o : Nat} {er : Int} : (countA s o er 32).v ≤ 32 := by
  unfold countA
  split
  · by_cases h : (cnt (tkA s o) 32).er = 0
    · have := (cnt_most h).2
      show (cnt (tkA s o) 32).n ≤ 32
      omega
    · have := (cnt_err (m := 32) (tkA_err (s := s) (o := o)) h).1
      show (cnt (tkA s o) 32).n ≤ 32
      omega
  · exact Nat.zero_le _
theorem zag_range {n : Nat} (h : n < 18446744073709551616) : -9223372036854775808 ≤ zag n ∧ zag n < 9223372036854775808 := by
  unfold zag
  split <;> omega
theorem zag_uintA {s : ByteArray} {o : Nat} (ho : o ≤ s.size) : -9223372036854775808 ≤ zag (uintA s o 0).v ∧ zag (uintA s o 0).v < 9223372036854775808 := zag_range (uintA_lt ho)
set_option maxRecDepth 100000 in
set_option maxHeartbeats 4000000 in
theorem take_deep {s : ByteArray} (hs : s.size ≤ 4096) : TakeC s 9 (takeA s 0) := by
  intro w b o e hcu ho
  have hT : takeA s 0 o e = ⟨leafT 0 false 0 ⟨#[]⟩, o, if e = 0 then 30 else e⟩ := rfl
  rw [hT]
  clear hT
  obtain ⟨e2, he2⟩ : ∃ e2, (if e = 0 then 30 else e) = e2 := ⟨_, rfl⟩
  have h0 : e2 ≠ 0 := by rw [← he2]; split <;> omega
  have hbw := lt_of_row hcu
  have hb4 : Below w.heap.size w (w.alloc (.cells #[.int .i64 0, .bool false, .int .i64 0, .string ⟨#[]⟩, .slice none 0 0, .slice none 0 0] 25)) := (Below.refl _ w).alloc (Nat.le_refl _) _
  have r4 := heap_alloc_new w (.cells #[.int .i64 0, .bool false, .int .i64 0, .string ⟨#[]⟩, .slice none 0 0, .slice none 0 0] 25)
  have hcu4 := hcu.later hb4
  have hfl := fail_at hcu4 30
  rw [he2] at hfl ⊢
  have hA : bytesA s o e2 1 = ⟨⟨#[]⟩, o, e2⟩ := if_neg h0
  clear he2
  go_enter Try.func42, Try.ntmps42
  go_wp2_with fail
  refine hfl.mono ?_
  rintro r w0 ⟨rfl, hk0, hon0⟩
  have hby := bytes_at (n := 1) hk0 ho hs
  rw [hA] at hby
  go_wp2_with fail
  refine hby.mono ?_
  rintro r w1 ⟨rfl, hk1, hon01⟩
  have hon1 : Only b w w1 := (Only.ofBelow hb4).trans (hon0.trans hon01)
  have r41 := ((hon0.trans hon01).block w.heap.size (by simp) (by omega)).trans r4
  have a0 := cell_of_row w1 _ 0 _ _ _ r41
  have a1 := cell_of_row w1 _ 1 _ _ _ r41
  have a2 := cell_of_row w1 _ 2 _ _ _ r41
  have a3 := cell_of_row w1 _ 3 _ _ _ r41
  have a4 := cell_of_row w1 _ 4 _ _ _ r41
  have a5 := cell_of_row w1 _ 5 _ _ _ r41
  have b0 := frozen_of_row w1 _ 0 _ _ r41
  have b1 := frozen_of_row w1 _ 1 _ _ r41
  have b2 := frozen_of_row w1 _ 2 _ _ r41
  have b3 := frozen_of_row w1 _ 3 _ _ r41
  have b4 := frozen_of_row w1 _ 4 _ _ r41
  have b5 := frozen_of_row w1 _ 5 _ _ r41
  go_wp2
  change bodyPost _ _ _ _ _ (set6 w1 w.heap.size (.int .i64 0) (.bool false) (.int .i64 0) (.string ⟨#[]⟩) (.slice none 0 0) (.slice none 0 0))
  have hro := set6_row r41 (.int .i64 0) (.bool false) (.int .i64 0) (.string ⟨#[]⟩) (.slice none 0 0) (.slice none 0 0)
  have hkeep : ∀ k1, k1 ≠ w.heap.size → (set6 w1 w.heap.size (.int .i64 0) (.bool false) (.int .i64 0) (.string ⟨#[]⟩) (.slice none 0 0) (.slice none 0 0)).heap[k1]? = w1.heap[k1]? := fun k1 h1 => set6_block _ _ _ _ _ _ _ _ k1 h1
  have hsz := set6_size w1 w.heap.size (.int .i64 0) (.bool false) (.int .i64 0) (.string ⟨#[]⟩) (.slice none 0 0) (.slice none 0 0)
  have hof : Only b w (set6 w1 w.heap.size (.int .i64 0) (.bool false) (.int .i64 0) (.string ⟨#[]⟩) (.slice none 0 0) (.slice none 0 0)) := only_set (only_set (only_set (only_set (only_set (only_set hon1 (Nat.le_refl _) 0 _) (Nat.le_refl _) 1 _) (Nat.le_refl _) 2 _) (Nat.le_refl _) 3 _) (Nat.le_refl _) 4 _) (Nat.le_refl _) 5 _
  obtain ⟨wf, hwf⟩ : ∃ wf, set6 w1 w.heap.size (.int .i64 0) (.bool false) (.int .i64 0) (.string ⟨#[]⟩) (.slice none 0 0) (.slice none 0 0) = wf := ⟨_, rfl⟩
  rw [hwf] at hro hkeep hsz hof ⊢
  clear hwf
  have v0 := cell_of_row wf _ 0 _ _ _ hro
  have v1 := cell_of_row wf _ 1 _ _ _ hro
  have v2 := cell_of_row wf _ 2 _ _ _ hro
  have v3 := cell_of_row wf _ 3 _ _ _ hro
  have v4 := cell_of_row wf _ 4 _ _ _ hro
  have v5 := cell_of_row wf _ 5 _ _ _ hro
  refine bodyPost_ret (v := .agg #[.int .i64 0, .bool false, .int .i64 0, .string ⟨#[]⟩, .slice none 0 0, .slice none 0 0]) (by simp [results, Try.results42, go_sem, v0, v1, v2, v3, v4, v5]) rfl ?_
  exact ⟨⟨none, 0, none, 0⟩, rfl, lies_leaf (by decide) (by decide) (Nat.zero_le _), (hkeep b (by omega)).trans hk1, hof, ho⟩
set_option maxRecDepth 100000 in
set_option maxHeartbeats 4000000 in
theorem take_none {s : ByteArray} (hs : s.size ≤ 4096) (d : Int) (hd : d ≤ 8) (w : World) (b o : Nat) (e e2 : Int) (hcu : Cur w b s (o : Int) e) (ho : o ≤ s.size) (hA : bytesA s o e 1 = ⟨⟨#[]⟩, o, e2⟩) :
    Calls Try.prog 42 #[.pointer (some ⟨b, 0, none⟩), .int .i64 d] w fun r w' => ∃ A : Ad, r = .returned ((leafT 0 false 0 ⟨#[]⟩).val A) ∧ LiesS (fun k => w.heap.size ≤ k ∧ k < w'.heap.size) w' (leafT 0 false 0 ⟨#[]⟩) A ∧ Cur w' b s (o : Int) e2 ∧ Only b w w' ∧ o ≤ s.size := by
  have hbw := lt_of_row hcu
  have hb4 : Below w.heap.size w (w.alloc (.cells #[.int .i64 0, .bool false, .int .i64 0, .string ⟨#[]⟩, .slice none 0 0, .slice none 0 0] 25)) := (Below.refl _ w).alloc (Nat.le_refl _) _
  have r4 := heap_alloc_new w (.cells #[.int .i64 0, .bool false, .int .i64 0, .string ⟨#[]⟩, .slice none 0 0, .slice none 0 0] 25)
  have hcu4 := hcu.later hb4
  have hby := bytes_at (n := 1) hcu4 ho hs
  rw [hA] at hby
  clear hA
  go_enter Try.func42, Try.ntmps42
  go_wp2_with fail
  refine hby.mono ?_
  rintro r w1 ⟨rfl, hk1, hon01⟩
  have hon1 : Only b w w1 := (Only.ofBelow hb4).trans hon01
  have r41 := (hon01.block w.heap.size (by simp) (by omega)).trans r4
  have a0 := cell_of_row w1 _ 0 _ _ _ r41
  have a1 := cell_of_row w1 _ 1 _ _ _ r41
  have a2 := cell_of_row w1 _ 2 _ _ _ r41
  have a3 := cell_of_row w1 _ 3 _ _ _ r41
  have a4 := cell_of_row w1 _ 4 _ _ _ r41
  have a5 := cell_of_row w1 _ 5 _ _ _ r41
  have b0 := frozen_of_row w1 _ 0 _ _ r41
  have b1 := frozen_of_row w1 _ 1 _ _ r41
  have b2 := frozen_of_row w1 _ 2 _ _ r41
  have b3 := frozen_of_row w1 _ 3 _ _ r41
  have b4 := frozen_of_row w1 _ 4 _ _ r41
  have b5 := frozen_of_row w1 _ 5 _ _ r41
  go_wp2
  change bodyPost _ _ _ _ _ (set6 w1 w.heap.size (.int .i64 0) (.bool false) (.int .i64 0) (.string ⟨#[]⟩) (.slice none 0 0) (.slice none 0 0))
  have hro := set6_row r41 (.int .i64 0) (.bool false) (.int .i64 0) (.string ⟨#[]⟩) (.slice none 0 0) (.slice none 0 0)
  have hkeep : ∀ k1, k1 ≠ w.heap.size → (set6 w1 w.heap.size (.int .i64 0) (.bool false) (.int .i64 0) (.string ⟨#[]⟩) (.slice none 0 0) (.slice none 0 0)).heap[k1]? = w1.heap[k1]? := fun k1 h1 => set6_block _ _ _ _ _ _ _ _ k1 h1
  have hsz := set6_size w1 w.heap.size (.int .i64 0) (.bool false) (.int .i64 0) (.string ⟨#[]⟩) (.slice none 0 0) (.slice none 0 0)
  have hof : Only b w (set6 w1 w.heap.size (.int .i64 0) (.bool false) (.int .i64 0) (.string ⟨#[]⟩) (.slice none 0 0) (.slice none 0 0)) := only_set (only_set (only_set (only_set (only_set (only_set hon1 (Nat.le_refl _) 0 _) (Nat.le_refl _) 1 _) (Nat.le_refl _) 2 _) (Nat.le_refl _) 3 _) (Nat.le_refl _) 4 _) (Nat.le_refl _) 5 _
  obtain ⟨wf, hwf⟩ : ∃ wf, set6 w1 w.heap.size (.int .i64 0) (.bool false) (.int .i64 0) (.string ⟨#[]⟩) (.slice none 0 0) (.slice none 0 0) = wf := ⟨_, rfl⟩
  rw [hwf] at hro hkeep hsz hof ⊢
  clear hwf
  have v0 := cell_of_row wf _ 0 _ _ _ hro
  have v1 := cell_of_row wf _ 1 _ _ _ hro
  have v2 := cell_of_row wf _ 2 _ _ _ hro
  have v3 := cell_of_row wf _ 3 _ _ _ hro
  have v4 := cell_of_row wf _ 4 _ _ _ hro
  have v5 := cell_of_row wf _ 5 _ _ _ hro
  refine bodyPost_ret (v := .agg #[.int .i64 0, .bool false, .int .i64 0, .string ⟨#[]⟩, .slice none 0 0, .slice none 0 0]) (by simp [results, Try.results42, go_sem, v0, v1, v2, v3, v4, v5]) rfl ?_
  exact ⟨⟨none, 0, none, 0⟩, rfl, lies_leaf (by decide) (by decide) (Nat.zero_le _), (hkeep b (by omega)).trans hk1, hof, ho⟩
set_option maxRecDepth 100000 in
set_option maxHeartbeats 8000000 in
theorem take_1 {s : ByteArray} (hs : s.size ≤ 4096) (d : Int) (hd0 : 0 ≤ d) (hd : d ≤ 8) {T : Nat → Int → Tak} (w : World) (b o : Nat) (hcu : Cur w b s (o : Int) 0) (ho : o < s.size) (x : UInt8) (hx : s.data.toList.getD o 0 = x) (hK : x.toNat = 1) :
    Calls Try.prog 42 #[.pointer (some ⟨b, 0, none⟩), .int .i64 d] w fun r w' => ∃ A : Ad, r = .returned ((nodeA s x.toNat (o + 1) T).t.val A) ∧ LiesS (fun k => w.heap.size ≤ k ∧ k < w'.heap.size) w' (nodeA s x.toNat (o + 1) T).t A ∧ Cur w' b s ((nodeA s x.toNat (o + 1) T).o : Int) (nodeA s x.toNat (o + 1) T).e ∧ Only b w w' ∧ (nodeA s x.toNat (o + 1) T).o ≤ s.size := by
  have hbw := lt_of_row hcu
  have hb4 : Below w.heap.size w (w.alloc (.cells #[.int .i64 0, .bool false, .int .i64 0, .string ⟨#[]⟩, .slice none 0 0, .slice none 0 0] 25)) := (Below.refl _ w).alloc (Nat.le_refl _) _
  have r4 := heap_alloc_new w (.cells #[.int .i64 0, .bool false, .int .i64 0, .string ⟨#[]⟩, .slice none 0 0, .slice none 0 0] 25)
  have hcu4 := hcu.later hb4
  have hA : bytesA s o 0 1 = ⟨⟨#[x]⟩, o + 1, 0⟩ := by
    unfold bytesA
    rw [if_pos rfl, if_neg (by omega), if_neg (by omega), show (1 : Int).toNat = 1 from rfl, ext1' s o ho, hx]
  have hby := bytes_at (n := 1) hcu4 (by omega) hs
  rw [hA] at hby
  clear hA hx
  obtain ⟨y, hy⟩ : ∃ y : ByteArray, (⟨#[x]⟩ : ByteArray) = y := ⟨_, rfl⟩
  have hys : 0 < y.size := by rw [← hy]; exact Nat.zero_lt_one
  have hy0 : y[0] = x := by subst hy; rfl
  have hye : y.toList.isEmpty = false := by subst hy; rw [Lib.toList_data]; rfl
  rw [hy] at hby
  clear hy
  obtain ⟨o1, ho1⟩ : ∃ o1, o + 1 = o1 := ⟨_, rfl⟩
  rw [ho1] at hby ⊢
  have hle1 : o1 ≤ s.size := by omega
  clear ho1
  have hN : nodeA s x.toNat o1 T = ⟨leafT 1 (boolA s o1 0).v 0 ⟨#[]⟩, (boolA s o1 0).o, (boolA s o1 0).e⟩ := by rw [hK]; rfl
  rw [hN]
  clear hN
  have hK2 : (x.toNat : Int) = 1 := by omega
  clear hK
  go_enter Try.func42, Try.ntmps42
  go_wp2_with fail
  refine hby.mono ?_
  rintro r w1 ⟨rfl, hk1, hon01⟩
  have hon1 : Only b w w1 := (Only.ofBelow hb4).trans hon01
  have r41 := (hon01.block w.heap.size (by simp) (by omega)).trans r4
  have hlt4 := lt_of_row r41
  have r6 := heap_alloc_new w1 (.cells #[.int .i64 1, .bool false, .int .i64 0, .string ⟨#[]⟩, .slice none 0 0, .slice none 0 0] 25)
  have hbx : Below w1.heap.size w1 (w1.alloc (.cells #[.int .i64 1, .bool false, .int .i64 0, .string ⟨#[]⟩, .slice none 0 0, .slice none 0 0] 25)) := (Below.refl _ w1).alloc (Nat.le_refl _) _
  have hk6 := hk1.later hbx
  have r46 := (hbx.block _ hlt4).trans r41
  have hon6 := hon1.trans (Only.ofBelow hbx)
  have hcall := bool_at hk6 hle1 hs
  go_wp2_with fail
  refine hcall.mono ?_
  rintro r w2 ⟨rfl, hk2, hon2⟩
  have r42 := (hon2.block _ (lt_of_row r46) (by omega)).trans r46
  have hlb := lt_of_row hk1
  have r62 := (hon2.block w1.heap.size (by simp) (by omega)).trans r6
  have hon2' := hon6.trans hon2
  have f6 := frozen_of_row w2 _ 1 _ _ r62
  have e0 := cell_of_row w2 _ 0 _ _ _ r62
  have e1 := cell_of_row w2 _ 1 _ _ _ r62
  have e2 := cell_of_row w2 _ 2 _ _ _ r62
  have e3 := cell_of_row w2 _ 3 _ _ _ r62
  have e4 := cell_of_row w2 _ 4 _ _ _ r62
  have e5 := cell_of_row w2 _ 5 _ _ _ r62
  have hset : ∀ k, k ≠ w1.heap.size → (w2.setCell ⟨w1.heap.size, 1, none⟩ (.bool (boolA s o1 0).v)).heap[k]? = w2.heap[k]? := fun k hk => Below.heap_setCell _ _ _ k hk
  have r43 := (hset w.heap.size (by omega)).trans r42
  have hk3 : Cur (w2.setCell ⟨w1.heap.size, 1, none⟩ (.bool (boolA s o1 0).v)) b s ((boolA s o1 0).o : Int) (boolA s o1 0).e := (hset b (by omega)).trans hk2
  have hon3 := only_set hon2' (show w.heap.size ≤ w1.heap.size by omega) 1 (.bool (boolA s o1 0).v)
  have a0 := cell_of_row (w2.setCell ⟨w1.heap.size, 1, none⟩ (.bool (boolA s o1 0).v)) _ 0 _ _ _ r43
  have a1 := cell_of_row (w2.setCell ⟨w1.heap.size, 1, none⟩ (.bool (boolA s o1 0).v)) _ 1 _ _ _ r43
  have a2 := cell_of_row (w2.setCell ⟨w1.heap.size, 1, none⟩ (.bool (boolA s o1 0).v)) _ 2 _ _ _ r43
  have a3 := cell_of_row (w2.setCell ⟨w1.heap.size, 1, none⟩ (.bool (boolA s o1 0).v)) _ 3 _ _ _ r43
  have a4 := cell_of_row (w2.setCell ⟨w1.heap.size, 1, none⟩ (.bool (boolA s o1 0).v)) _ 4 _ _ _ r43
  have a5 := cell_of_row (w2.setCell ⟨w1.heap.size, 1, none⟩ (.bool (boolA s o1 0).v)) _ 5 _ _ _ r43
  have b0 := frozen_of_row (w2.setCell ⟨w1.heap.size, 1, none⟩ (.bool (boolA s o1 0).v)) _ 0 _ _ r43
  have b1 := frozen_of_row (w2.setCell ⟨w1.heap.size, 1, none⟩ (.bool (boolA s o1 0).v)) _ 1 _ _ r43
  have b2 := frozen_of_row (w2.setCell ⟨w1.heap.size, 1, none⟩ (.bool (boolA s o1 0).v)) _ 2 _ _ r43
  have b3 := frozen_of_row (w2.setCell ⟨w1.heap.size, 1, none⟩ (.bool (boolA s o1 0).v)) _ 3 _ _ r43
  have b4 := frozen_of_row (w2.setCell ⟨w1.heap.size, 1, none⟩ (.bool (boolA s o1 0).v)) _ 4 _ _ r43
  have b5 := frozen_of_row (w2.setCell ⟨w1.heap.size, 1, none⟩ (.bool (boolA s o1 0).v)) _ 5 _ _ r43
  go_wp2
  change bodyPost _ _ _ _ _ (set6 (w2.setCell ⟨w1.heap.size, 1, none⟩ (.bool (boolA s o1 0).v)) w.heap.size (.int .i64 1) (.bool (boolA s o1 0).v) (.int .i64 0) (.string ⟨#[]⟩) (.slice none 0 0) (.slice none 0 0))
  have hro := set6_row r43 (.int .i64 1) (.bool (boolA s o1 0).v) (.int .i64 0) (.string ⟨#[]⟩) (.slice none 0 0) (.slice none 0 0)
  have hkeep : ∀ k1, k1 ≠ w.heap.size → (set6 (w2.setCell ⟨w1.heap.size, 1, none⟩ (.bool (boolA s o1 0).v)) w.heap.size (.int .i64 1) (.bool (boolA s o1 0).v) (.int .i64 0) (.string ⟨#[]⟩) (.slice none 0 0) (.slice none 0 0)).heap[k1]? = (w2.setCell ⟨w1.heap.size, 1, none⟩ (.bool (boolA s o1 0).v)).heap[k1]? := fun k1 h1 => set6_block _ _ _ _ _ _ _ _ k1 h1
  have hsz := set6_size (w2.setCell ⟨w1.heap.size, 1, none⟩ (.bool (boolA s o1 0).v)) w.heap.size (.int .i64 1) (.bool (boolA s o1 0).v) (.int .i64 0) (.string ⟨#[]⟩) (.slice none 0 0) (.slice none 0 0)
  have hof : Only b w (set6 (w2.setCell ⟨w1.heap.size, 1, none⟩ (.bool (boolA s o1 0).v)) w.heap.size (.int .i64 1) (.bool (boolA s o1 0).v) (.int .i64 0) (.string ⟨#[]⟩) (.slice none 0 0) (.slice none 0 0)) := only_set (only_set (only_set (only_set (only_set (only_set hon3 (Nat.le_refl _) 0 _) (Nat.le_refl _) 1 _) (Nat.le_refl _) 2 _) (Nat.le_refl _) 3 _) (Nat.le_refl _) 4 _) (Nat.le_refl _) 5 _
  obtain ⟨wf, hwf⟩ : ∃ wf, set6 (w2.setCell ⟨w1.heap.size, 1, none⟩ (.bool (boolA s o1 0).v)) w.heap.size (.int .i64 1) (.bool (boolA s o1 0).v) (.int .i64 0) (.string ⟨#[]⟩) (.slice none 0 0) (.slice none 0 0) = wf := ⟨_, rfl⟩
  rw [hwf] at hro hkeep hsz hof ⊢
  clear hwf
  have v0 := cell_of_row wf _ 0 _ _ _ hro
  have v1 := cell_of_row wf _ 1 _ _ _ hro
  have v2 := cell_of_row wf _ 2 _ _ _ hro
  have v3 := cell_of_row wf _ 3 _ _ _ hro
  have v4 := cell_of_row wf _ 4 _ _ _ hro
  have v5 := cell_of_row wf _ 5 _ _ _ hro
  refine bodyPost_ret (v := .agg #[.int .i64 1, .bool (boolA s o1 0).v, .int .i64 0, .string ⟨#[]⟩, .slice none 0 0, .slice none 0 0]) (by simp [results, Try.results42, go_sem, v0, v1, v2, v3, v4, v5]) rfl ?_
  exact ⟨⟨none, 0, none, 0⟩, rfl, lies_leaf (by decide) (by decide) (Nat.zero_le _), (hkeep b (by omega)).trans hk3, hof, boolA_le hle1⟩
set_option maxRecDepth 100000 in
set_option maxHeartbeats 8000000 in
theorem take_2 {s : ByteArray} (hs : s.size ≤ 4096) (d : Int) (hd0 : 0 ≤ d) (hd : d ≤ 8) {T : Nat → Int → Tak} (w : World) (b o : Nat) (hcu : Cur w b s (o : Int) 0) (ho : o < s.size) (x : UInt8) (hx : s.data.toList.getD o 0 = x) (hK : x.toNat = 2) :
    Calls Try.prog 42 #[.pointer (some ⟨b, 0, none⟩), .int .i64 d] w fun r w' => ∃ A : Ad, r = .returned ((nodeA s x.toNat (o + 1) T).t.val A) ∧ LiesS (fun k => w.heap.size ≤ k ∧ k < w'.heap.size) w' (nodeA s x.toNat (o + 1) T).t A ∧ Cur w' b s ((nodeA s x.toNat (o + 1) T).o : Int) (nodeA s x.toNat (o + 1) T).e ∧ Only b w w' ∧ (nodeA s x.toNat (o + 1) T).o ≤ s.size := by
  have hbw := lt_of_row hcu
  have hb4 : Below w.heap.size w (w.alloc (.cells #[.int .i64 0, .bool false, .int .i64 0, .string ⟨#[]⟩, .slice none 0 0, .slice none 0 0] 25)) := (Below.refl _ w).alloc (Nat.le_refl _) _
  have r4 := heap_alloc_new w (.cells #[.int .i64 0, .bool false, .int .i64 0, .string ⟨#[]⟩, .slice none 0 0, .slice none 0 0] 25)
  have hcu4 := hcu.later hb4
  have hA : bytesA s o 0 1 = ⟨⟨#[x]⟩, o + 1, 0⟩ := by
    unfold bytesA
    rw [if_pos rfl, if_neg (by omega), if_neg (by omega), show (1 : Int).toNat = 1 from rfl, ext1' s o ho, hx]
  have hby := bytes_at (n := 1) hcu4 (by omega) hs
  rw [hA] at hby
  clear hA hx
  obtain ⟨y, hy⟩ : ∃ y : ByteArray, (⟨#[x]⟩ : ByteArray) = y := ⟨_, rfl⟩
  have hys : 0 < y.size := by rw [← hy]; exact Nat.zero_lt_one
  have hy0 : y[0] = x := by subst hy; rfl
  have hye : y.toList.isEmpty = false := by subst hy; rw [Lib.toList_data]; rfl
  rw [hy] at hby
  clear hy
  obtain ⟨o1, ho1⟩ : ∃ o1, o + 1 = o1 := ⟨_, rfl⟩
  rw [ho1] at hby ⊢
  have hle1 : o1 ≤ s.size := by omega
  clear ho1
  have hN : nodeA s x.toNat o1 T = ⟨leafT 2 false (zag (uintA s o1 0).v) ⟨#[]⟩, (uintA s o1 0).o, (uintA s o1 0).e⟩ := by rw [hK]; rfl
  rw [hN]
  clear hN
  have hK2 : (x.toNat : Int) = 2 := by omega
  clear hK
  go_enter Try.func42, Try.ntmps42
  go_wp2_with fail
  refine hby.mono ?_
  rintro r w1 ⟨rfl, hk1, hon01⟩
  have hon1 : Only b w w1 := (Only.ofBelow hb4).trans hon01
  have r41 := (hon01.block w.heap.size (by simp) (by omega)).trans r4
  have hlt4 := lt_of_row r41
  have r6 := heap_alloc_new w1 (.cells #[.int .i64 2, .bool false, .int .i64 0, .string ⟨#[]⟩, .slice none 0 0, .slice none 0 0] 25)
  have hbx : Below w1.heap.size w1 (w1.alloc (.cells #[.int .i64 2, .bool false, .int .i64 0, .string ⟨#[]⟩, .slice none 0 0, .slice none 0 0] 25)) := (Below.refl _ w1).alloc (Nat.le_refl _) _
  have hk6 := hk1.later hbx
  have r46 := (hbx.block _ hlt4).trans r41
  have hon6 := hon1.trans (Only.ofBelow hbx)
  have hcall := int_at hk6 hle1 hs
  go_wp2_with fail
  refine hcall.mono ?_
  rintro r w2 ⟨rfl, hk2, hon2⟩
  have r42 := (hon2.block _ (lt_of_row r46) (by omega)).trans r46
  have hlb := lt_of_row hk1
  have r62 := (hon2.block w1.heap.size (by simp) (by omega)).trans r6
  have hon2' := hon6.trans hon2
  have f6 := frozen_of_row w2 _ 2 _ _ r62
  have e0 := cell_of_row w2 _ 0 _ _ _ r62
  have e1 := cell_of_row w2 _ 1 _ _ _ r62
  have e2 := cell_of_row w2 _ 2 _ _ _ r62
  have e3 := cell_of_row w2 _ 3 _ _ _ r62
  have e4 := cell_of_row w2 _ 4 _ _ _ r62
  have e5 := cell_of_row w2 _ 5 _ _ _ r62
  have hset : ∀ k, k ≠ w1.heap.size → (w2.setCell ⟨w1.heap.size, 2, none⟩ (.int .i64 (zag (uintA s o1 0).v))).heap[k]? = w2.heap[k]? := fun k hk => Below.heap_setCell _ _ _ k hk
  have r43 := (hset w.heap.size (by omega)).trans r42
  have hk3 : Cur (w2.setCell ⟨w1.heap.size, 2, none⟩ (.int .i64 (zag (uintA s o1 0).v))) b s ((uintA s o1 0).o : Int) (uintA s o1 0).e := (hset b (by omega)).trans hk2
  have hon3 := only_set hon2' (show w.heap.size ≤ w1.heap.size by omega) 2 (.int .i64 (zag (uintA s o1 0).v))
  have a0 := cell_of_row (w2.setCell ⟨w1.heap.size, 2, none⟩ (.int .i64 (zag (uintA s o1 0).v))) _ 0 _ _ _ r43
  have a1 := cell_of_row (w2.setCell ⟨w1.heap.size, 2, none⟩ (.int .i64 (zag (uintA s o1 0).v))) _ 1 _ _ _ r43
  have a2 := cell_of_row (w2.setCell ⟨w1.heap.size, 2, none⟩ (.int .i64 (zag (uintA s o1 0).v))) _ 2 _ _ _ r43
  have a3 := cell_of_row (w2.setCell ⟨w1.heap.size, 2, none⟩ (.int .i64 (zag (uintA s o1 0).v))) _ 3 _ _ _ r43
  have a4 := cell_of_row (w2.setCell ⟨w1.heap.size, 2, none⟩ (.int .i64 (zag (uintA s o1 0).v))) _ 4 _ _ _ r43
  have a5 := cell_of_row (w2.setCell ⟨w1.heap.size, 2, none⟩ (.int .i64 (zag (uintA s o1 0).v))) _ 5 _ _ _ r43
  have b0 := frozen_of_row (w2.setCell ⟨w1.heap.size, 2, none⟩ (.int .i64 (zag (uintA s o1 0).v))) _ 0 _ _ r43
  have b1 := frozen_of_row (w2.setCell ⟨w1.heap.size, 2, none⟩ (.int .i64 (zag (uintA s o1 0).v))) _ 1 _ _ r43
  have b2 := frozen_of_row (w2.setCell ⟨w1.heap.size, 2, none⟩ (.int .i64 (zag (uintA s o1 0).v))) _ 2 _ _ r43
  have b3 := frozen_of_row (w2.setCell ⟨w1.heap.size, 2, none⟩ (.int .i64 (zag (uintA s o1 0).v))) _ 3 _ _ r43
  have b4 := frozen_of_row (w2.setCell ⟨w1.heap.size, 2, none⟩ (.int .i64 (zag (uintA s o1 0).v))) _ 4 _ _ r43
  have b5 := frozen_of_row (w2.setCell ⟨w1.heap.size, 2, none⟩ (.int .i64 (zag (uintA s o1 0).v))) _ 5 _ _ r43
  go_wp2
  change bodyPost _ _ _ _ _ (set6 (w2.setCell ⟨w1.heap.size, 2, none⟩ (.int .i64 (zag (uintA s o1 0).v))) w.heap.size (.int .i64 2) (.bool false) (.int .i64 (zag (uintA s o1 0).v)) (.string ⟨#[]⟩) (.slice none 0 0) (.slice none 0 0))
  have hro := set6_row r43 (.int .i64 2) (.bool false) (.int .i64 (zag (uintA s o1 0).v)) (.string ⟨#[]⟩) (.slice none 0 0) (.slice none 0 0)
  have hkeep : ∀ k1, k1 ≠ w.heap.size → (set6 (w2.setCell ⟨w1.heap.size, 2, none⟩ (.int .i64 (zag (uintA s o1 0).v))) w.heap.size (.int .i64 2) (.bool false) (.int .i64 (zag (uintA s o1 0).v)) (.string ⟨#[]⟩) (.slice none 0 0) (.slice none 0 0)).heap[k1]? = (w2.setCell ⟨w1.heap.size, 2, none⟩ (.int .i64 (zag (uintA s o1 0).v))).heap[k1]? := fun k1 h1 => set6_block _ _ _ _ _ _ _ _ k1 h1
  have hsz := set6_size (w2.setCell ⟨w1.heap.size, 2, none⟩ (.int .i64 (zag (uintA s o1 0).v))) w.heap.size (.int .i64 2) (.bool false) (.int .i64 (zag (uintA s o1 0).v)) (.string ⟨#[]⟩) (.slice none 0 0) (.slice none 0 0)
  have hof : Only b w (set6 (w2.setCell ⟨w1.heap.size, 2, none⟩ (.int .i64 (zag (uintA s o1 0).v))) w.heap.size (.int .i64 2) (.bool false) (.int .i64 (zag (uintA s o1 0).v)) (.string ⟨#[]⟩) (.slice none 0 0) (.slice none 0 0)) := only_set (only_set (only_set (only_set (only_set (only_set hon3 (Nat.le_refl _) 0 _) (Nat.le_refl _) 1 _) (Nat.le_refl _) 2 _) (Nat.le_refl _) 3 _) (Nat.le_refl _) 4 _) (Nat.le_refl _) 5 _
  obtain ⟨wf, hwf⟩ : ∃ wf, set6 (w2.setCell ⟨w1.heap.size, 2, none⟩ (.int .i64 (zag (uintA s o1 0).v))) w.heap.size (.int .i64 2) (.bool false) (.int .i64 (zag (uintA s o1 0).v)) (.string ⟨#[]⟩) (.slice none 0 0) (.slice none 0 0) = wf := ⟨_, rfl⟩
  rw [hwf] at hro hkeep hsz hof ⊢
  clear hwf
  have v0 := cell_of_row wf _ 0 _ _ _ hro
  have v1 := cell_of_row wf _ 1 _ _ _ hro
  have v2 := cell_of_row wf _ 2 _ _ _ hro
  have v3 := cell_of_row wf _ 3 _ _ _ hro
  have v4 := cell_of_row wf _ 4 _ _ _ hro
  have v5 := cell_of_row wf _ 5 _ _ _ hro
  refine bodyPost_ret (v := .agg #[.int .i64 2, .bool false, .int .i64 (zag (uintA s o1 0).v), .string ⟨#[]⟩, .slice none 0 0, .slice none 0 0]) (by simp [results, Try.results42, go_sem, v0, v1, v2, v3, v4, v5]) rfl ?_
  exact ⟨⟨none, 0, none, 0⟩, rfl, lies_leaf (by decide) (zag_uintA hle1) (Nat.zero_le _), (hkeep b (by omega)).trans hk3, hof, uintA_le hle1⟩
set_option maxRecDepth 100000 in
set_option maxHeartbeats 8000000 in
theorem take_3 {s : ByteArray} (hs : s.size ≤ 4096) (d : Int) (hd0 : 0 ≤ d) (hd : d ≤ 8) {T : Nat → Int → Tak} (w : World) (b o : Nat) (hcu : Cur w b s (o : Int) 0) (ho : o < s.size) (x : UInt8) (hx : s.data.toList.getD o 0 = x) (hK : x.toNat = 3) :
    Calls Try.prog 42 #[.pointer (some ⟨b, 0, none⟩), .int .i64 d] w fun r w' => ∃ A : Ad, r = .returned ((nodeA s x.toNat (o + 1) T).t.val A) ∧ LiesS (fun k => w.heap.size ≤ k ∧ k < w'.heap.size) w' (nodeA s x.toNat (o + 1) T).t A ∧ Cur w' b s ((nodeA s x.toNat (o + 1) T).o : Int) (nodeA s x.toNat (o + 1) T).e ∧ Only b w w' ∧ (nodeA s x.toNat (o + 1) T).o ≤ s.size := by
  have hbw := lt_of_row hcu
  have hb4 : Below w.heap.size w (w.alloc (.cells #[.int .i64 0, .bool false, .int .i64 0, .string ⟨#[]⟩, .slice none 0 0, .slice none 0 0] 25)) := (Below.refl _ w).alloc (Nat.le_refl _) _
  have r4 := heap_alloc_new w (.cells #[.int .i64 0, .bool false, .int .i64 0, .string ⟨#[]⟩, .slice none 0 0, .slice none 0 0] 25)
  have hcu4 := hcu.later hb4
  have hA : bytesA s o 0 1 = ⟨⟨#[x]⟩, o + 1, 0⟩ := by
    unfold bytesA
    rw [if_pos rfl, if_neg (by omega), if_neg (by omega), show (1 : Int).toNat = 1 from rfl, ext1' s o ho, hx]
  have hby := bytes_at (n := 1) hcu4 (by omega) hs
  rw [hA] at hby
  clear hA hx
  obtain ⟨y, hy⟩ : ∃ y : ByteArray, (⟨#[x]⟩ : ByteArray) = y := ⟨_, rfl⟩
  have hys : 0 < y.size := by rw [← hy]; exact Nat.zero_lt_one
  have hy0 : y[0] = x := by subst hy; rfl
  have hye : y.toList.isEmpty = false := by subst hy; rw [Lib.toList_data]; rfl
  rw [hy] at hby
  clear hy
  obtain ⟨o1, ho1⟩ : ∃ o1, o + 1 = o1 := ⟨_, rfl⟩
  rw [ho1] at hby ⊢
  have hle1 : o1 ≤ s.size := by omega
  clear ho1
  have hN : nodeA s x.toNat o1 T = ⟨leafT 3 false 0 (textA s o1 0 1024).v, (textA s o1 0 1024).o, (textA s o1 0 1024).e⟩ := by rw [hK]; rfl
  rw [hN]
  clear hN
  have hK2 : (x.toNat : Int) = 3 := by omega
  clear hK
  go_enter Try.func42, Try.ntmps42
  go_wp2_with fail
  refine hby.mono ?_
  rintro r w1 ⟨rfl, hk1, hon01⟩
  have hon1 : Only b w w1 := (Only.ofBelow hb4).trans hon01
  have r41 := (hon01.block w.heap.size (by simp) (by omega)).trans r4
  have hlt4 := lt_of_row r41
  have r6 := heap_alloc_new w1 (.cells #[.int .i64 3, .bool false, .int .i64 0, .string ⟨#[]⟩, .slice none 0 0, .slice none 0 0] 25)
  have hbx : Below w1.heap.size w1 (w1.alloc (.cells #[.int .i64 3, .bool false, .int .i64 0, .string ⟨#[]⟩, .slice none 0 0, .slice none 0 0] 25)) := (Below.refl _ w1).alloc (Nat.le_refl _) _
  have hk6 := hk1.later hbx
  have r46 := (hbx.block _ hlt4).trans r41
  have hon6 := hon1.trans (Only.ofBelow hbx)
  have hcall := text_at hk6 hle1 hs 1024
  go_wp2_with fail
  refine hcall.mono ?_
  rintro r w2 ⟨rfl, hk2, hon2⟩
  have r42 := (hon2.block _ (lt_of_row r46) (by omega)).trans r46
  have hlb := lt_of_row hk1
  have r62 := (hon2.block w1.heap.size (by simp) (by omega)).trans r6
  have hon2' := hon6.trans hon2
  have f6 := frozen_of_row w2 _ 3 _ _ r62
  have e0 := cell_of_row w2 _ 0 _ _ _ r62
  have e1 := cell_of_row w2 _ 1 _ _ _ r62
  have e2 := cell_of_row w2 _ 2 _ _ _ r62
  have e3 := cell_of_row w2 _ 3 _ _ _ r62
  have e4 := cell_of_row w2 _ 4 _ _ _ r62
  have e5 := cell_of_row w2 _ 5 _ _ _ r62
  have hset : ∀ k, k ≠ w1.heap.size → (w2.setCell ⟨w1.heap.size, 3, none⟩ (.string (textA s o1 0 1024).v)).heap[k]? = w2.heap[k]? := fun k hk => Below.heap_setCell _ _ _ k hk
  have r43 := (hset w.heap.size (by omega)).trans r42
  have hk3 : Cur (w2.setCell ⟨w1.heap.size, 3, none⟩ (.string (textA s o1 0 1024).v)) b s ((textA s o1 0 1024).o : Int) (textA s o1 0 1024).e := (hset b (by omega)).trans hk2
  have hon3 := only_set hon2' (show w.heap.size ≤ w1.heap.size by omega) 3 (.string (textA s o1 0 1024).v)
  have a0 := cell_of_row (w2.setCell ⟨w1.heap.size, 3, none⟩ (.string (textA s o1 0 1024).v)) _ 0 _ _ _ r43
  have a1 := cell_of_row (w2.setCell ⟨w1.heap.size, 3, none⟩ (.string (textA s o1 0 1024).v)) _ 1 _ _ _ r43
  have a2 := cell_of_row (w2.setCell ⟨w1.heap.size, 3, none⟩ (.string (textA s o1 0 1024).v)) _ 2 _ _ _ r43
  have a3 := cell_of_row (w2.setCell ⟨w1.heap.size, 3, none⟩ (.string (textA s o1 0 1024).v)) _ 3 _ _ _ r43
  have a4 := cell_of_row (w2.setCell ⟨w1.heap.size, 3, none⟩ (.string (textA s o1 0 1024).v)) _ 4 _ _ _ r43
  have a5 := cell_of_row (w2.setCell ⟨w1.heap.size, 3, none⟩ (.string (textA s o1 0 1024).v)) _ 5 _ _ _ r43
  have b0 := frozen_of_row (w2.setCell ⟨w1.heap.size, 3, none⟩ (.string (textA s o1 0 1024).v)) _ 0 _ _ r43
  have b1 := frozen_of_row (w2.setCell ⟨w1.heap.size, 3, none⟩ (.string (textA s o1 0 1024).v)) _ 1 _ _ r43
  have b2 := frozen_of_row (w2.setCell ⟨w1.heap.size, 3, none⟩ (.string (textA s o1 0 1024).v)) _ 2 _ _ r43
  have b3 := frozen_of_row (w2.setCell ⟨w1.heap.size, 3, none⟩ (.string (textA s o1 0 1024).v)) _ 3 _ _ r43
  have b4 := frozen_of_row (w2.setCell ⟨w1.heap.size, 3, none⟩ (.string (textA s o1 0 1024).v)) _ 4 _ _ r43
  have b5 := frozen_of_row (w2.setCell ⟨w1.heap.size, 3, none⟩ (.string (textA s o1 0 1024).v)) _ 5 _ _ r43
  go_wp2
  change bodyPost _ _ _ _ _ (set6 (w2.setCell ⟨w1.heap.size, 3, none⟩ (.string (textA s o1 0 1024).v)) w.heap.size (.int .i64 3) (.bool false) (.int .i64 0) (.string (textA s o1 0 1024).v) (.slice none 0 0) (.slice none 0 0))
  have hro := set6_row r43 (.int .i64 3) (.bool false) (.int .i64 0) (.string (textA s o1 0 1024).v) (.slice none 0 0) (.slice none 0 0)
  have hkeep : ∀ k1, k1 ≠ w.heap.size → (set6 (w2.setCell ⟨w1.heap.size, 3, none⟩ (.string (textA s o1 0 1024).v)) w.heap.size (.int .i64 3) (.bool false) (.int .i64 0) (.string (textA s o1 0 1024).v) (.slice none 0 0) (.slice none 0 0)).heap[k1]? = (w2.setCell ⟨w1.heap.size, 3, none⟩ (.string (textA s o1 0 1024).v)).heap[k1]? := fun k1 h1 => set6_block _ _ _ _ _ _ _ _ k1 h1
  have hsz := set6_size (w2.setCell ⟨w1.heap.size, 3, none⟩ (.string (textA s o1 0 1024).v)) w.heap.size (.int .i64 3) (.bool false) (.int .i64 0) (.string (textA s o1 0 1024).v) (.slice none 0 0) (.slice none 0 0)
  have hof : Only b w (set6 (w2.setCell ⟨w1.heap.size, 3, none⟩ (.string (textA s o1 0 1024).v)) w.heap.size (.int .i64 3) (.bool false) (.int .i64 0) (.string (textA s o1 0 1024).v) (.slice none 0 0) (.slice none 0 0)) := only_set (only_set (only_set (only_set (only_set (only_set hon3 (Nat.le_refl _) 0 _) (Nat.le_refl _) 1 _) (Nat.le_refl _) 2 _) (Nat.le_refl _) 3 _) (Nat.le_refl _) 4 _) (Nat.le_refl _) 5 _
  obtain ⟨wf, hwf⟩ : ∃ wf, set6 (w2.setCell ⟨w1.heap.size, 3, none⟩ (.string (textA s o1 0 1024).v)) w.heap.size (.int .i64 3) (.bool false) (.int .i64 0) (.string (textA s o1 0 1024).v) (.slice none 0 0) (.slice none 0 0) = wf := ⟨_, rfl⟩
  rw [hwf] at hro hkeep hsz hof ⊢
  clear hwf
  have v0 := cell_of_row wf _ 0 _ _ _ hro
  have v1 := cell_of_row wf _ 1 _ _ _ hro
  have v2 := cell_of_row wf _ 2 _ _ _ hro
  have v3 := cell_of_row wf _ 3 _ _ _ hro
  have v4 := cell_of_row wf _ 4 _ _ _ hro
  have v5 := cell_of_row wf _ 5 _ _ _ hro
  refine bodyPost_ret (v := .agg #[.int .i64 3, .bool false, .int .i64 0, .string (textA s o1 0 1024).v, .slice none 0 0, .slice none 0 0]) (by simp [results, Try.results42, go_sem, v0, v1, v2, v3, v4, v5]) rfl ?_
  exact ⟨⟨none, 0, none, 0⟩, rfl, lies_leaf (by decide) (by decide) (by have := textA_size (s := s) (o := o1) (er := 0) (m := 1024); unfold maxLen; omega), (hkeep b (by omega)).trans hk3, hof, textA_le hle1⟩
set_option maxRecDepth 100000 in
set_option maxHeartbeats 8000000 in
theorem take_4 {s : ByteArray} (hs : s.size ≤ 4096) (d : Int) (hd0 : 0 ≤ d) (hd : d ≤ 8) {T : Nat → Int → Tak} (w : World) (b o : Nat) (hcu : Cur w b s (o : Int) 0) (ho : o < s.size) (x : UInt8) (hx : s.data.toList.getD o 0 = x) (hK : x.toNat = 4) :
    Calls Try.prog 42 #[.pointer (some ⟨b, 0, none⟩), .int .i64 d] w fun r w' => ∃ A : Ad, r = .returned ((nodeA s x.toNat (o + 1) T).t.val A) ∧ LiesS (fun k => w.heap.size ≤ k ∧ k < w'.heap.size) w' (nodeA s x.toNat (o + 1) T).t A ∧ Cur w' b s ((nodeA s x.toNat (o + 1) T).o : Int) (nodeA s x.toNat (o + 1) T).e ∧ Only b w w' ∧ (nodeA s x.toNat (o + 1) T).o ≤ s.size := by
  have hbw := lt_of_row hcu
  have hb4 : Below w.heap.size w (w.alloc (.cells #[.int .i64 0, .bool false, .int .i64 0, .string ⟨#[]⟩, .slice none 0 0, .slice none 0 0] 25)) := (Below.refl _ w).alloc (Nat.le_refl _) _
  have r4 := heap_alloc_new w (.cells #[.int .i64 0, .bool false, .int .i64 0, .string ⟨#[]⟩, .slice none 0 0, .slice none 0 0] 25)
  have hcu4 := hcu.later hb4
  have hA : bytesA s o 0 1 = ⟨⟨#[x]⟩, o + 1, 0⟩ := by
    unfold bytesA
    rw [if_pos rfl, if_neg (by omega), if_neg (by omega), show (1 : Int).toNat = 1 from rfl, ext1' s o ho, hx]
  have hby := bytes_at (n := 1) hcu4 (by omega) hs
  rw [hA] at hby
  clear hA hx
  obtain ⟨y, hy⟩ : ∃ y : ByteArray, (⟨#[x]⟩ : ByteArray) = y := ⟨_, rfl⟩
  have hys : 0 < y.size := by rw [← hy]; exact Nat.zero_lt_one
  have hy0 : y[0] = x := by subst hy; rfl
  have hye : y.toList.isEmpty = false := by subst hy; rw [Lib.toList_data]; rfl
  rw [hy] at hby
  clear hy
  obtain ⟨o1, ho1⟩ : ∃ o1, o + 1 = o1 := ⟨_, rfl⟩
  rw [ho1] at hby ⊢
  have hle1 : o1 ≤ s.size := by omega
  clear ho1
  have hN : nodeA s x.toNat o1 T = ⟨leafT 4 false 0 (textA s o1 0 1024).v, (textA s o1 0 1024).o, (textA s o1 0 1024).e⟩ := by rw [hK]; rfl
  rw [hN]
  clear hN
  have hK2 : (x.toNat : Int) = 4 := by omega
  clear hK
  go_enter Try.func42, Try.ntmps42
  go_wp2_with fail
  refine hby.mono ?_
  rintro r w1 ⟨rfl, hk1, hon01⟩
  have hon1 : Only b w w1 := (Only.ofBelow hb4).trans hon01
  have r41 := (hon01.block w.heap.size (by simp) (by omega)).trans r4
  have hlt4 := lt_of_row r41
  have r6 := heap_alloc_new w1 (.cells #[.int .i64 4, .bool false, .int .i64 0, .string ⟨#[]⟩, .slice none 0 0, .slice none 0 0] 25)
  have hbx : Below w1.heap.size w1 (w1.alloc (.cells #[.int .i64 4, .bool false, .int .i64 0, .string ⟨#[]⟩, .slice none 0 0, .slice none 0 0] 25)) := (Below.refl _ w1).alloc (Nat.le_refl _) _
  have hk6 := hk1.later hbx
  have r46 := (hbx.block _ hlt4).trans r41
  have hon6 := hon1.trans (Only.ofBelow hbx)
  have hcall := text_at hk6 hle1 hs 1024
  go_wp2_with fail
  refine hcall.mono ?_
  rintro r w2 ⟨rfl, hk2, hon2⟩
  have r42 := (hon2.block _ (lt_of_row r46) (by omega)).trans r46
  have hlb := lt_of_row hk1
  have r62 := (hon2.block w1.heap.size (by simp) (by omega)).trans r6
  have hon2' := hon6.trans hon2
  have f6 := frozen_of_row w2 _ 3 _ _ r62
  have e0 := cell_of_row w2 _ 0 _ _ _ r62
  have e1 := cell_of_row w2 _ 1 _ _ _ r62
  have e2 := cell_of_row w2 _ 2 _ _ _ r62
  have e3 := cell_of_row w2 _ 3 _ _ _ r62
  have e4 := cell_of_row w2 _ 4 _ _ _ r62
  have e5 := cell_of_row w2 _ 5 _ _ _ r62
  have hset : ∀ k, k ≠ w1.heap.size → (w2.setCell ⟨w1.heap.size, 3, none⟩ (.string (textA s o1 0 1024).v)).heap[k]? = w2.heap[k]? := fun k hk => Below.heap_setCell _ _ _ k hk
  have r43 := (hset w.heap.size (by omega)).trans r42
  have hk3 : Cur (w2.setCell ⟨w1.heap.size, 3, none⟩ (.string (textA s o1 0 1024).v)) b s ((textA s o1 0 1024).o : Int) (textA s o1 0 1024).e := (hset b (by omega)).trans hk2
  have hon3 := only_set hon2' (show w.heap.size ≤ w1.heap.size by omega) 3 (.string (textA s o1 0 1024).v)
  have a0 := cell_of_row (w2.setCell ⟨w1.heap.size, 3, none⟩ (.string (textA s o1 0 1024).v)) _ 0 _ _ _ r43
  have a1 := cell_of_row (w2.setCell ⟨w1.heap.size, 3, none⟩ (.string (textA s o1 0 1024).v)) _ 1 _ _ _ r43
  have a2 := cell_of_row (w2.setCell ⟨w1.heap.size, 3, none⟩ (.string (textA s o1 0 1024).v)) _ 2 _ _ _ r43
  have a3 := cell_of_row (w2.setCell ⟨w1.heap.size, 3, none⟩ (.string (textA s o1 0 1024).v)) _ 3 _ _ _ r43
  have a4 := cell_of_row (w2.setCell ⟨w1.heap.size, 3, none⟩ (.string (textA s o1 0 1024).v)) _ 4 _ _ _ r43
  have a5 := cell_of_row (w2.setCell ⟨w1.heap.size, 3, none⟩ (.string (textA s o1 0 1024).v)) _ 5 _ _ _ r43
  have b0 := frozen_of_row (w2.setCell ⟨w1.heap.size, 3, none⟩ (.string (textA s o1 0 1024).v)) _ 0 _ _ r43
  have b1 := frozen_of_row (w2.setCell ⟨w1.heap.size, 3, none⟩ (.string (textA s o1 0 1024).v)) _ 1 _ _ r43
  have b2 := frozen_of_row (w2.setCell ⟨w1.heap.size, 3, none⟩ (.string (textA s o1 0 1024).v)) _ 2 _ _ r43
  have b3 := frozen_of_row (w2.setCell ⟨w1.heap.size, 3, none⟩ (.string (textA s o1 0 1024).v)) _ 3 _ _ r43
  have b4 := frozen_of_row (w2.setCell ⟨w1.heap.size, 3, none⟩ (.string (textA s o1 0 1024).v)) _ 4 _ _ r43
  have b5 := frozen_of_row (w2.setCell ⟨w1.heap.size, 3, none⟩ (.string (textA s o1 0 1024).v)) _ 5 _ _ r43
  go_wp2
  change bodyPost _ _ _ _ _ (set6 (w2.setCell ⟨w1.heap.size, 3, none⟩ (.string (textA s o1 0 1024).v)) w.heap.size (.int .i64 4) (.bool false) (.int .i64 0) (.string (textA s o1 0 1024).v) (.slice none 0 0) (.slice none 0 0))
  have hro := set6_row r43 (.int .i64 4) (.bool false) (.int .i64 0) (.string (textA s o1 0 1024).v) (.slice none 0 0) (.slice none 0 0)
  have hkeep : ∀ k1, k1 ≠ w.heap.size → (set6 (w2.setCell ⟨w1.heap.size, 3, none⟩ (.string (textA s o1 0 1024).v)) w.heap.size (.int .i64 4) (.bool false) (.int .i64 0) (.string (textA s o1 0 1024).v) (.slice none 0 0) (.slice none 0 0)).heap[k1]? = (w2.setCell ⟨w1.heap.size, 3, none⟩ (.string (textA s o1 0 1024).v)).heap[k1]? := fun k1 h1 => set6_block _ _ _ _ _ _ _ _ k1 h1
  have hsz := set6_size (w2.setCell ⟨w1.heap.size, 3, none⟩ (.string (textA s o1 0 1024).v)) w.heap.size (.int .i64 4) (.bool false) (.int .i64 0) (.string (textA s o1 0 1024).v) (.slice none 0 0) (.slice none 0 0)
  have hof : Only b w (set6 (w2.setCell ⟨w1.heap.size, 3, none⟩ (.string (textA s o1 0 1024).v)) w.heap.size (.int .i64 4) (.bool false) (.int .i64 0) (.string (textA s o1 0 1024).v) (.slice none 0 0) (.slice none 0 0)) := only_set (only_set (only_set (only_set (only_set (only_set hon3 (Nat.le_refl _) 0 _) (Nat.le_refl _) 1 _) (Nat.le_refl _) 2 _) (Nat.le_refl _) 3 _) (Nat.le_refl _) 4 _) (Nat.le_refl _) 5 _
  obtain ⟨wf, hwf⟩ : ∃ wf, set6 (w2.setCell ⟨w1.heap.size, 3, none⟩ (.string (textA s o1 0 1024).v)) w.heap.size (.int .i64 4) (.bool false) (.int .i64 0) (.string (textA s o1 0 1024).v) (.slice none 0 0) (.slice none 0 0) = wf := ⟨_, rfl⟩
  rw [hwf] at hro hkeep hsz hof ⊢
  clear hwf
  have v0 := cell_of_row wf _ 0 _ _ _ hro
  have v1 := cell_of_row wf _ 1 _ _ _ hro
  have v2 := cell_of_row wf _ 2 _ _ _ hro
  have v3 := cell_of_row wf _ 3 _ _ _ hro
  have v4 := cell_of_row wf _ 4 _ _ _ hro
  have v5 := cell_of_row wf _ 5 _ _ _ hro
  refine bodyPost_ret (v := .agg #[.int .i64 4, .bool false, .int .i64 0, .string (textA s o1 0 1024).v, .slice none 0 0, .slice none 0 0]) (by simp [results, Try.results42, go_sem, v0, v1, v2, v3, v4, v5]) rfl ?_
  exact ⟨⟨none, 0, none, 0⟩, rfl, lies_leaf (by decide) (by decide) (by have := textA_size (s := s) (o := o1) (er := 0) (m := 1024); unfold maxLen; omega), (hkeep b (by omega)).trans hk3, hof, textA_le hle1⟩
end Go.Proofs.Ytjmjlijmeahmfaa
