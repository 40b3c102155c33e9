/- A value, taken of bytes (take): nothing, lists, structs, kinds that are none; and of any bytes. -/
import Derived.Test.YtjmjlijmeahmfaaTakev
namespace Go.Proofs.Ytjmjlijmeahmfaa
open Go.RowKit
set_option maxRecDepth 100000 in
set_option maxHeartbeats 8000000 in
theorem take_0 {s : ByteArray} (hs : s.size ≤ 4096) (d : Int) (hd0 : 0 ≤ d) (hd : d ≤ 8) {T : Nat → Int → Tak} (w : World) (b o : Nat) (hcu : Cur w b s (o : Int) 0) (ho : o < s.size) (x : UInt8) (hx : s.data.toList.getD o 0 = x) (hK : x.toNat = 0) :
    Calls Try.prog 42 #[.pointer (some ⟨b, 0, none⟩), .int .i64 d] w fun r w' => ∃ A : Ad, r = .returned ((nodeA s x.toNat (o + 1) T).t.val A) ∧ LiesS (fun k => w.heap.size ≤ k ∧ k < w'.heap.size) w' (nodeA s x.toNat (o + 1) T).t A ∧ Cur w' b s ((nodeA s x.toNat (o + 1) T).o : Int) (nodeA s x.toNat (o + 1) T).e ∧ Only b w w' ∧ (nodeA s x.toNat (o + 1) T).o ≤ s.size := by
  have hbw := lt_of_row hcu
  have hb4 : Below w.heap.size w (w.alloc (.cells #[.int .i64 0, .bool false, .int .i64 0, .string ⟨#[]⟩, .slice none 0 0, .slice none 0 0] 25)) := (Below.refl _ w).alloc (Nat.le_refl _) _
  have r4 := heap_alloc_new w (.cells #[.int .i64 0, .bool false, .int .i64 0, .string ⟨#[]⟩, .slice none 0 0, .slice none 0 0] 25)
  have hcu4 := hcu.later hb4
  have hA : bytesA s o 0 1 = ⟨⟨#[x]⟩, o + 1, 0⟩ := by
    unfold bytesA
    rw [if_pos rfl, if_neg (by omega), if_neg (by omega), show (1 : Int).toNat = 1 from rfl, ext1' s o ho, hx]
  have hby := bytes_at (n := 1) hcu4 (by omega) hs
  rw [hA] at hby
  clear hA hx
  obtain ⟨y, hy⟩ : ∃ y : ByteArray, (⟨#[x]⟩ : ByteArray) = y := ⟨_, rfl⟩
  have hys : 0 < y.size := by rw [← hy]; exact Nat.zero_lt_one
  have hy0 : y[0] = x := by subst hy; rfl
  have hye : y.toList.isEmpty = false := by subst hy; rw [Lib.toList_data]; rfl
  rw [hy] at hby
  clear hy
  obtain ⟨o1, ho1⟩ : ∃ o1, o + 1 = o1 := ⟨_, rfl⟩
  rw [ho1] at hby ⊢
  have hle1 : o1 ≤ s.size := by omega
  clear ho1
  have hN : nodeA s x.toNat o1 T = ⟨leafT 0 false 0 ⟨#[]⟩, o1, 0⟩ := by rw [hK]; rfl
  rw [hN]
  clear hN
  have hK2 : (x.toNat : Int) = 0 := by omega
  clear hK
  go_enter Try.func42, Try.ntmps42
  go_wp2_with fail
  refine hby.mono ?_
  rintro r w1 ⟨rfl, hk1, hon01⟩
  have hon1 : Only b w w1 := (Only.ofBelow hb4).trans hon01
  have r41 := (hon01.block w.heap.size (by simp) (by omega)).trans r4
  have hlt4 := lt_of_row r41
  have a0 := cell_of_row w1 _ 0 _ _ _ r41
  have a1 := cell_of_row w1 _ 1 _ _ _ r41
  have a2 := cell_of_row w1 _ 2 _ _ _ r41
  have a3 := cell_of_row w1 _ 3 _ _ _ r41
  have a4 := cell_of_row w1 _ 4 _ _ _ r41
  have a5 := cell_of_row w1 _ 5 _ _ _ r41
  have b0 := frozen_of_row w1 _ 0 _ _ r41
  have b1 := frozen_of_row w1 _ 1 _ _ r41
  have b2 := frozen_of_row w1 _ 2 _ _ r41
  have b3 := frozen_of_row w1 _ 3 _ _ r41
  have b4 := frozen_of_row w1 _ 4 _ _ r41
  have b5 := frozen_of_row w1 _ 5 _ _ r41
  go_wp2
  change bodyPost _ _ _ _ _ ((set6 w1 w.heap.size (.int .i64 0) (.bool false) (.int .i64 0) (.string ⟨#[]⟩) (.slice none 0 0) (.slice none 0 0)).alloc (.cells #[.int .i64 0, .bool false, .int .i64 0, .string ⟨#[]⟩, .slice none 0 0, .slice none 0 0] 25))
  have hro0 := set6_row r41 (.int .i64 0) (.bool false) (.int .i64 0) (.string ⟨#[]⟩) (.slice none 0 0) (.slice none 0 0)
  have hsz0 := set6_size w1 w.heap.size (.int .i64 0) (.bool false) (.int .i64 0) (.string ⟨#[]⟩) (.slice none 0 0) (.slice none 0 0)
  have hro := (Below.heap_alloc (set6 w1 w.heap.size (.int .i64 0) (.bool false) (.int .i64 0) (.string ⟨#[]⟩) (.slice none 0 0) (.slice none 0 0)) (.cells #[.int .i64 0, .bool false, .int .i64 0, .string ⟨#[]⟩, .slice none 0 0, .slice none 0 0] 25) _ (lt_of_row hro0)).trans hro0
  have hkeep : ∀ k1, k1 ≠ w.heap.size → k1 < w1.heap.size → ((set6 w1 w.heap.size (.int .i64 0) (.bool false) (.int .i64 0) (.string ⟨#[]⟩) (.slice none 0 0) (.slice none 0 0)).alloc (.cells #[.int .i64 0, .bool false, .int .i64 0, .string ⟨#[]⟩, .slice none 0 0, .slice none 0 0] 25)).heap[k1]? = w1.heap[k1]? := fun k1 h1 h2 => (Below.heap_alloc _ _ k1 (by rw [hsz0]; exact h2)).trans (set6_block _ _ _ _ _ _ _ _ k1 h1)
  have hof : Only b w ((set6 w1 w.heap.size (.int .i64 0) (.bool false) (.int .i64 0) (.string ⟨#[]⟩) (.slice none 0 0) (.slice none 0 0)).alloc (.cells #[.int .i64 0, .bool false, .int .i64 0, .string ⟨#[]⟩, .slice none 0 0, .slice none 0 0] 25)) := only_alloc (only_set (only_set (only_set (only_set (only_set (only_set hon1 (Nat.le_refl _) 0 _) (Nat.le_refl _) 1 _) (Nat.le_refl _) 2 _) (Nat.le_refl _) 3 _) (Nat.le_refl _) 4 _) (Nat.le_refl _) 5 _) _
  obtain ⟨wf, hwf⟩ : ∃ wf, (set6 w1 w.heap.size (.int .i64 0) (.bool false) (.int .i64 0) (.string ⟨#[]⟩) (.slice none 0 0) (.slice none 0 0)).alloc (.cells #[.int .i64 0, .bool false, .int .i64 0, .string ⟨#[]⟩, .slice none 0 0, .slice none 0 0] 25) = wf := ⟨_, rfl⟩
  rw [hwf] at hro hkeep hof ⊢
  clear hwf
  have v0 := cell_of_row wf _ 0 _ _ _ hro
  have v1 := cell_of_row wf _ 1 _ _ _ hro
  have v2 := cell_of_row wf _ 2 _ _ _ hro
  have v3 := cell_of_row wf _ 3 _ _ _ hro
  have v4 := cell_of_row wf _ 4 _ _ _ hro
  have v5 := cell_of_row wf _ 5 _ _ _ hro
  refine bodyPost_ret (v := .agg #[.int .i64 0, .bool false, .int .i64 0, .string ⟨#[]⟩, .slice none 0 0, .slice none 0 0]) (by simp [results, Try.results42, go_sem, v0, v1, v2, v3, v4, v5]) rfl ?_
  exact ⟨⟨none, 0, none, 0⟩, rfl, lies_leaf (by decide) (by decide) (Nat.zero_le _), (hkeep b (by omega) (lt_of_row hk1)).trans hk1, hof, hle1⟩
set_option maxRecDepth 100000 in
set_option maxHeartbeats 8000000 in
theorem take_bad {s : ByteArray} (hs : s.size ≤ 4096) (d : Int) (hd0 : 0 ≤ d) (hd : d ≤ 8) {T : Nat → Int → Tak} (w : World) (b o : Nat) (hcu : Cur w b s (o : Int) 0) (ho : o < s.size) (x : UInt8) (hx : s.data.toList.getD o 0 = x) (hK : 6 < x.toNat) :
    Calls Try.prog 42 #[.pointer (some ⟨b, 0, none⟩), .int .i64 d] w fun r w' => ∃ A : Ad, r = .returned ((nodeA s x.toNat (o + 1) T).t.val A) ∧ LiesS (fun k => w.heap.size ≤ k ∧ k < w'.heap.size) w' (nodeA s x.toNat (o + 1) T).t A ∧ Cur w' b s ((nodeA s x.toNat (o + 1) T).o : Int) (nodeA s x.toNat (o + 1) T).e ∧ Only b w w' ∧ (nodeA s x.toNat (o + 1) T).o ≤ s.size := by
  have hbw := lt_of_row hcu
  have hb4 : Below w.heap.size w (w.alloc (.cells #[.int .i64 0, .bool false, .int .i64 0, .string ⟨#[]⟩, .slice none 0 0, .slice none 0 0] 25)) := (Below.refl _ w).alloc (Nat.le_refl _) _
  have r4 := heap_alloc_new w (.cells #[.int .i64 0, .bool false, .int .i64 0, .string ⟨#[]⟩, .slice none 0 0, .slice none 0 0] 25)
  have hcu4 := hcu.later hb4
  have hA : bytesA s o 0 1 = ⟨⟨#[x]⟩, o + 1, 0⟩ := by
    unfold bytesA
    rw [if_pos rfl, if_neg (by omega), if_neg (by omega), show (1 : Int).toNat = 1 from rfl, ext1' s o ho, hx]
  have hby := bytes_at (n := 1) hcu4 (by omega) hs
  rw [hA] at hby
  clear hA hx
  obtain ⟨y, hy⟩ : ∃ y : ByteArray, (⟨#[x]⟩ : ByteArray) = y := ⟨_, rfl⟩
  have hys : 0 < y.size := by rw [← hy]; exact Nat.zero_lt_one
  have hy0 : y[0] = x := by subst hy; rfl
  have hye : y.toList.isEmpty = false := by subst hy; rw [Lib.toList_data]; rfl
  rw [hy] at hby
  clear hy
  obtain ⟨o1, ho1⟩ : ∃ o1, o + 1 = o1 := ⟨_, rfl⟩
  rw [ho1] at hby ⊢
  have hle1 : o1 ≤ s.size := by omega
  clear ho1
  have hN : nodeA s x.toNat o1 T = ⟨leafT (x.toNat : Int) false 0 ⟨#[]⟩, o1, 6⟩ := by unfold nodeA; rw [if_neg (by omega), if_neg (by omega), if_neg (by omega), if_neg (by omega), if_neg (by omega)]
  rw [hN]
  clear hN
  have n0 : ((x.toNat : Int) == 0) = false := by simp; omega
  have n1 : ((x.toNat : Int) == 1) = false := by simp; omega
  have n2 : ((x.toNat : Int) == 2) = false := by simp; omega
  have n3 : ((x.toNat : Int) == 3) = false := by simp; omega
  have n4 : ((x.toNat : Int) == 4) = false := by simp; omega
  have n5 : ((x.toNat : Int) == 5) = false := by simp; omega
  have n6 : ((x.toNat : Int) == 6) = false := by simp; omega
  have hx256 := x.toNat_lt
  go_enter Try.func42, Try.ntmps42
  go_wp2_with fail
  refine hby.mono ?_
  rintro r w1 ⟨rfl, hk1, hon01⟩
  have hon1 : Only b w w1 := (Only.ofBelow hb4).trans hon01
  have r41 := (hon01.block w.heap.size (by simp) (by omega)).trans r4
  have hlt4 := lt_of_row r41
  have r6 := heap_alloc_new w1 (.cells #[.int .i64 (x.toNat : Int), .bool false, .int .i64 0, .string ⟨#[]⟩, .slice none 0 0, .slice none 0 0] 25)
  have hbx : Below w1.heap.size w1 (w1.alloc (.cells #[.int .i64 (x.toNat : Int), .bool false, .int .i64 0, .string ⟨#[]⟩, .slice none 0 0, .slice none 0 0] 25)) := (Below.refl _ w1).alloc (Nat.le_refl _) _
  have hk6 := hk1.later hbx
  have r46 := (hbx.block _ hlt4).trans r41
  have hon6 := hon1.trans (Only.ofBelow hbx)
  have hcall := fail_at hk6 6
  rw [if_pos rfl] at hcall
  go_wp2_with fail
  refine hcall.mono ?_
  rintro r w2 ⟨rfl, hk2, hon2⟩
  have r42 := (hon2.block _ (lt_of_row r46) (by omega)).trans r46
  have hlb := lt_of_row hk1
  have r62 := (hon2.block w1.heap.size (by simp) (by omega)).trans r6
  have hon2' := hon6.trans hon2
  have e0 := cell_of_row w2 _ 0 _ _ _ r62
  have e1 := cell_of_row w2 _ 1 _ _ _ r62
  have e2 := cell_of_row w2 _ 2 _ _ _ r62
  have e3 := cell_of_row w2 _ 3 _ _ _ r62
  have e4 := cell_of_row w2 _ 4 _ _ _ r62
  have e5 := cell_of_row w2 _ 5 _ _ _ r62
  have a0 := cell_of_row w2 _ 0 _ _ _ r42
  have a1 := cell_of_row w2 _ 1 _ _ _ r42
  have a2 := cell_of_row w2 _ 2 _ _ _ r42
  have a3 := cell_of_row w2 _ 3 _ _ _ r42
  have a4 := cell_of_row w2 _ 4 _ _ _ r42
  have a5 := cell_of_row w2 _ 5 _ _ _ r42
  have b0 := frozen_of_row w2 _ 0 _ _ r42
  have b1 := frozen_of_row w2 _ 1 _ _ r42
  have b2 := frozen_of_row w2 _ 2 _ _ r42
  have b3 := frozen_of_row w2 _ 3 _ _ r42
  have b4 := frozen_of_row w2 _ 4 _ _ r42
  have b5 := frozen_of_row w2 _ 5 _ _ r42
  go_wp2
  change bodyPost _ _ _ _ _ (set6 w2 w.heap.size (.int .i64 (x.toNat : Int)) (.bool false) (.int .i64 0) (.string ⟨#[]⟩) (.slice none 0 0) (.slice none 0 0))
  have hro := set6_row r42 (.int .i64 (x.toNat : Int)) (.bool false) (.int .i64 0) (.string ⟨#[]⟩) (.slice none 0 0) (.slice none 0 0)
  have hkeep : ∀ k1, k1 ≠ w.heap.size → (set6 w2 w.heap.size (.int .i64 (x.toNat : Int)) (.bool false) (.int .i64 0) (.string ⟨#[]⟩) (.slice none 0 0) (.slice none 0 0)).heap[k1]? = w2.heap[k1]? := fun k1 h1 => set6_block _ _ _ _ _ _ _ _ k1 h1
  have hsz := set6_size w2 w.heap.size (.int .i64 (x.toNat : Int)) (.bool false) (.int .i64 0) (.string ⟨#[]⟩) (.slice none 0 0) (.slice none 0 0)
  have hof : Only b w (set6 w2 w.heap.size (.int .i64 (x.toNat : Int)) (.bool false) (.int .i64 0) (.string ⟨#[]⟩) (.slice none 0 0) (.slice none 0 0)) := only_set (only_set (only_set (only_set (only_set (only_set hon2' (Nat.le_refl _) 0 _) (Nat.le_refl _) 1 _) (Nat.le_refl _) 2 _) (Nat.le_refl _) 3 _) (Nat.le_refl _) 4 _) (Nat.le_refl _) 5 _
  obtain ⟨wf, hwf⟩ : ∃ wf, set6 w2 w.heap.size (.int .i64 (x.toNat : Int)) (.bool false) (.int .i64 0) (.string ⟨#[]⟩) (.slice none 0 0) (.slice none 0 0) = wf := ⟨_, rfl⟩
  rw [hwf] at hro hkeep hsz hof ⊢
  clear hwf
  have v0 := cell_of_row wf _ 0 _ _ _ hro
  have v1 := cell_of_row wf _ 1 _ _ _ hro
  have v2 := cell_of_row wf _ 2 _ _ _ hro
  have v3 := cell_of_row wf _ 3 _ _ _ hro
  have v4 := cell_of_row wf _ 4 _ _ _ hro
  have v5 := cell_of_row wf _ 5 _ _ _ hro
  refine bodyPost_ret (v := .agg #[.int .i64 (x.toNat : Int), .bool false, .int .i64 0, .string ⟨#[]⟩, .slice none 0 0, .slice none 0 0]) (by simp [results, Try.results42, go_sem, v0, v1, v2, v3, v4, v5]) rfl ?_
  exact ⟨⟨none, 0, none, 0⟩, rfl, lies_leaf (by omega) (by decide) (Nat.zero_le _), (hkeep b (by omega)).trans hk2, hof, hle1⟩
set_option maxRecDepth 100000 in
set_option maxHeartbeats 8000000 in
theorem take_5 {s : ByteArray} (hs : s.size ≤ 4096) (d : Int) (hd0 : 0 ≤ d) (hd : d ≤ 8) {T : Nat → Int → Tak} (hT : TakeC s (d + 1) T) (w : World) (b o : Nat) (hcu : Cur w b s (o : Int) 0) (ho : o < s.size) (x : UInt8) (hx : s.data.toList.getD o 0 = x) (hK : x.toNat = 5) :
    Calls Try.prog 42 #[.pointer (some ⟨b, 0, none⟩), .int .i64 d] w fun r w' => ∃ A : Ad, r = .returned ((nodeA s x.toNat (o + 1) T).t.val A) ∧ LiesS (fun k => w.heap.size ≤ k ∧ k < w'.heap.size) w' (nodeA s x.toNat (o + 1) T).t A ∧ Cur w' b s ((nodeA s x.toNat (o + 1) T).o : Int) (nodeA s x.toNat (o + 1) T).e ∧ Only b w w' ∧ (nodeA s x.toNat (o + 1) T).o ≤ s.size := by
  have hbw := lt_of_row hcu
  have hb4 : Below w.heap.size w (w.alloc (.cells #[.int .i64 0, .bool false, .int .i64 0, .string ⟨#[]⟩, .slice none 0 0, .slice none 0 0] 25)) := (Below.refl _ w).alloc (Nat.le_refl _) _
  have r4 := heap_alloc_new w (.cells #[.int .i64 0, .bool false, .int .i64 0, .string ⟨#[]⟩, .slice none 0 0, .slice none 0 0] 25)
  have hcu4 := hcu.later hb4
  have hA : bytesA s o 0 1 = ⟨⟨#[x]⟩, o + 1, 0⟩ := by
    unfold bytesA
    rw [if_pos rfl, if_neg (by omega), if_neg (by omega), show (1 : Int).toNat = 1 from rfl, ext1' s o ho, hx]
  have hby := bytes_at (n := 1) hcu4 (by omega) hs
  rw [hA] at hby
  clear hA hx
  obtain ⟨y, hy⟩ : ∃ y : ByteArray, (⟨#[x]⟩ : ByteArray) = y := ⟨_, rfl⟩
  have hys : 0 < y.size := by rw [← hy]; exact Nat.zero_lt_one
  have hy0 : y[0] = x := by subst hy; rfl
  have hye : y.toList.isEmpty = false := by subst hy; rw [Lib.toList_data]; rfl
  rw [hy] at hby
  clear hy
  obtain ⟨o1, ho1⟩ : ∃ o1, o + 1 = o1 := ⟨_, rfl⟩
  rw [ho1] at hby ⊢
  have hle1 : o1 ≤ s.size := by omega
  clear ho1
  have hN : nodeA s x.toNat o1 T = ⟨nodeT 5 (runA s false T ⟨[], [], (countA s o1 0 32).o, (countA s o1 0 32).e⟩ (countA s o1 0 32).v), (runA s false T ⟨[], [], (countA s o1 0 32).o, (countA s o1 0 32).e⟩ (countA s o1 0 32).v).o, (runA s false T ⟨[], [], (countA s o1 0 32).o, (countA s o1 0 32).e⟩ (countA s o1 0 32).v).e⟩ := by rw [hK]; rfl
  rw [hN]
  clear hN
  have hK2 : (x.toNat : Int) = 5 := by omega
  clear hK
  obtain ⟨X, hX⟩ : ∃ X : St, (runA s false T ⟨[], [], (countA s o1 0 32).o, (countA s o1 0 32).e⟩ (countA s o1 0 32).v) = X := ⟨_, rfl⟩
  rw [hX]
  have HX : Hid ((runA s false T ⟨[], [], (countA s o1 0 32).o, (countA s o1 0 32).e⟩ (countA s o1 0 32).v) = X) := hX
  clear hX
  go_enter Try.func42, Try.ntmps42
  go_wp2_with fail
  refine hby.mono ?_
  rintro r w1 ⟨rfl, hk1, hon01⟩
  have hon1 : Only b w w1 := (Only.ofBelow hb4).trans hon01
  have r41 := (hon01.block w.heap.size (by simp) (by omega)).trans r4
  have hlt4 := lt_of_row r41
  have r6 := heap_alloc_new w1 (.cells #[.int .i64 5, .bool false, .int .i64 0, .string ⟨#[]⟩, .slice none 0 0, .slice none 0 0] 25)
  have hbx : Below w1.heap.size w1 (w1.alloc (.cells #[.int .i64 5, .bool false, .int .i64 0, .string ⟨#[]⟩, .slice none 0 0, .slice none 0 0] 25)) := (Below.refl _ w1).alloc (Nat.le_refl _) _
  have hk6 := hk1.later hbx
  have r46 := (hbx.block _ hlt4).trans r41
  have hon6 := hon1.trans (Only.ofBelow hbx)
  have hcall := takep_5 hs d hd0 (by omega) hT _ b o1 hk6 hle1 _ rfl countA_v (countA_le hle1) (fun o e h => ⟨textA_le h, by have := textA_size (s := s) (o := o) (er := e) (m := 16); omega⟩)
  rw [HX.out] at hcall
  have hcall2 : Calls Try.prog 76 #[.pointer (some ⟨b, 0, none⟩), .agg #[.int .i64 5, .bool false, .int .i64 0, .string ⟨#[]⟩, .slice none 0 0, .slice none 0 0], .int .i64 d] (w1.alloc (.cells #[.int .i64 5, .bool false, .int .i64 0, .string ⟨#[]⟩, .slice none 0 0, .slice none 0 0] 25)) fun r w' => ∃ A : Ad, r = .returned (.agg #[.int .i64 5, .bool false, .int .i64 0, .string ⟨#[]⟩, .slice A.pa X.ts.length A.pc, .slice A.na X.ns.length A.nc]) ∧ LiesS (fun k => (w1.alloc (.cells #[.int .i64 5, .bool false, .int .i64 0, .string ⟨#[]⟩, .slice none 0 0, .slice none 0 0] 25)).heap.size ≤ k ∧ k < w'.heap.size) w' (nodeT 5 X) A ∧ Cur w' b s (X.o : Int) X.e ∧ Only b (w1.alloc (.cells #[.int .i64 5, .bool false, .int .i64 0, .string ⟨#[]⟩, .slice none 0 0, .slice none 0 0] 25)) w' ∧ X.o ≤ s.size := hcall
  clear hcall
  go_wp2_with fail
  refine hcall2.mono ?_
  rintro r w2 ⟨A, rfl, hL2, hk2, hon2, hXo⟩
  have r42 := (hon2.block _ (lt_of_row r46) (by omega)).trans r46
  have hlb := lt_of_row hk1
  have r62 := (hon2.block w1.heap.size (by simp) (by omega)).trans r6
  have hon2' := hon6.trans hon2
  have a0 := cell_of_row w2 _ 0 _ _ _ r42
  have a1 := cell_of_row w2 _ 1 _ _ _ r42
  have a2 := cell_of_row w2 _ 2 _ _ _ r42
  have a3 := cell_of_row w2 _ 3 _ _ _ r42
  have a4 := cell_of_row w2 _ 4 _ _ _ r42
  have a5 := cell_of_row w2 _ 5 _ _ _ r42
  have b0 := frozen_of_row w2 _ 0 _ _ r42
  have b1 := frozen_of_row w2 _ 1 _ _ r42
  have b2 := frozen_of_row w2 _ 2 _ _ r42
  have b3 := frozen_of_row w2 _ 3 _ _ r42
  have b4 := frozen_of_row w2 _ 4 _ _ r42
  have b5 := frozen_of_row w2 _ 5 _ _ r42
  go_wp2
  change bodyPost _ _ _ _ _ (set6 w2 w.heap.size (.int .i64 5) (.bool false) (.int .i64 0) (.string ⟨#[]⟩) (.slice A.pa X.ts.length A.pc) (.slice A.na X.ns.length A.nc))
  have hro := set6_row r42 (.int .i64 5) (.bool false) (.int .i64 0) (.string ⟨#[]⟩) (.slice A.pa X.ts.length A.pc) (.slice A.na X.ns.length A.nc)
  have hkeep : ∀ k1, k1 ≠ w.heap.size → (set6 w2 w.heap.size (.int .i64 5) (.bool false) (.int .i64 0) (.string ⟨#[]⟩) (.slice A.pa X.ts.length A.pc) (.slice A.na X.ns.length A.nc)).heap[k1]? = w2.heap[k1]? := fun k1 h1 => set6_block _ _ _ _ _ _ _ _ k1 h1
  have hsz := set6_size w2 w.heap.size (.int .i64 5) (.bool false) (.int .i64 0) (.string ⟨#[]⟩) (.slice A.pa X.ts.length A.pc) (.slice A.na X.ns.length A.nc)
  have hof : Only b w (set6 w2 w.heap.size (.int .i64 5) (.bool false) (.int .i64 0) (.string ⟨#[]⟩) (.slice A.pa X.ts.length A.pc) (.slice A.na X.ns.length A.nc)) := only_set (only_set (only_set (only_set (only_set (only_set hon2' (Nat.le_refl _) 0 _) (Nat.le_refl _) 1 _) (Nat.le_refl _) 2 _) (Nat.le_refl _) 3 _) (Nat.le_refl _) 4 _) (Nat.le_refl _) 5 _
  obtain ⟨wf, hwf⟩ : ∃ wf, set6 w2 w.heap.size (.int .i64 5) (.bool false) (.int .i64 0) (.string ⟨#[]⟩) (.slice A.pa X.ts.length A.pc) (.slice A.na X.ns.length A.nc) = wf := ⟨_, rfl⟩
  rw [hwf] at hro hkeep hsz hof ⊢
  clear hwf
  have v0 := cell_of_row wf _ 0 _ _ _ hro
  have v1 := cell_of_row wf _ 1 _ _ _ hro
  have v2 := cell_of_row wf _ 2 _ _ _ hro
  have v3 := cell_of_row wf _ 3 _ _ _ hro
  have v4 := cell_of_row wf _ 4 _ _ _ hro
  have v5 := cell_of_row wf _ 5 _ _ _ hro
  refine bodyPost_ret (v := .agg #[.int .i64 5, .bool false, .int .i64 0, .string ⟨#[]⟩, .slice A.pa X.ts.length A.pc, .slice A.na X.ns.length A.nc]) (by simp [results, Try.results42, go_sem, v0, v1, v2, v3, v4, v5]) rfl ?_
  refine ⟨A, rfl, ?_, (hkeep b (by omega)).trans hk2, hof, hXo⟩
  refine (hL2.kept (fun k1 hk => hkeep k1 (by have := hk.1; simp at this; omega))).up (fun k1 hk => ?_)
  have := hk.1
  simp at this
  exact ⟨by omega, by rw [hsz]; exact hk.2⟩
set_option maxRecDepth 100000 in
set_option maxHeartbeats 8000000 in
theorem take_6 {s : ByteArray} (hs : s.size ≤ 4096) (d : Int) (hd0 : 0 ≤ d) (hd : d ≤ 8) {T : Nat → Int → Tak} (hT : TakeC s (d + 1) T) (w : World) (b o : Nat) (hcu : Cur w b s (o : Int) 0) (ho : o < s.size) (x : UInt8) (hx : s.data.toList.getD o 0 = x) (hK : x.toNat = 6) :
    Calls Try.prog 42 #[.pointer (some ⟨b, 0, none⟩), .int .i64 d] w fun r w' => ∃ A : Ad, r = .returned ((nodeA s x.toNat (o + 1) T).t.val A) ∧ LiesS (fun k => w.heap.size ≤ k ∧ k < w'.heap.size) w' (nodeA s x.toNat (o + 1) T).t A ∧ Cur w' b s ((nodeA s x.toNat (o + 1) T).o : Int) (nodeA s x.toNat (o + 1) T).e ∧ Only b w w' ∧ (nodeA s x.toNat (o + 1) T).o ≤ s.size := by
  have hbw := lt_of_row hcu
  have hb4 : Below w.heap.size w (w.alloc (.cells #[.int .i64 0, .bool false, .int .i64 0, .string ⟨#[]⟩, .slice none 0 0, .slice none 0 0] 25)) := (Below.refl _ w).alloc (Nat.le_refl _) _
  have r4 := heap_alloc_new w (.cells #[.int .i64 0, .bool false, .int .i64 0, .string ⟨#[]⟩, .slice none 0 0, .slice none 0 0] 25)
  have hcu4 := hcu.later hb4
  have hA : bytesA s o 0 1 = ⟨⟨#[x]⟩, o + 1, 0⟩ := by
    unfold bytesA
    rw [if_pos rfl, if_neg (by omega), if_neg (by omega), show (1 : Int).toNat = 1 from rfl, ext1' s o ho, hx]
  have hby := bytes_at (n := 1) hcu4 (by omega) hs
  rw [hA] at hby
  clear hA hx
  obtain ⟨y, hy⟩ : ∃ y : ByteArray, (⟨#[x]⟩ : ByteArray) = y := ⟨_, rfl⟩
  have hys : 0 < y.size := by rw [← hy]; exact Nat.zero_lt_one
  have hy0 : y[0] = x := by subst hy; rfl
  have hye : y.toList.isEmpty = false := by subst hy; rw [Lib.toList_data]; rfl
  rw [hy] at hby
  clear hy
  obtain ⟨o1, ho1⟩ : ∃ o1, o + 1 = o1 := ⟨_, rfl⟩
  rw [ho1] at hby ⊢
  have hle1 : o1 ≤ s.size := by omega
  clear ho1
  have hN : nodeA s x.toNat o1 T = ⟨nodeT 6 (runA s true T ⟨[], [], (countA s o1 0 32).o, (countA s o1 0 32).e⟩ (countA s o1 0 32).v), (runA s true T ⟨[], [], (countA s o1 0 32).o, (countA s o1 0 32).e⟩ (countA s o1 0 32).v).o, (runA s true T ⟨[], [], (countA s o1 0 32).o, (countA s o1 0 32).e⟩ (countA s o1 0 32).v).e⟩ := by rw [hK]; rfl
  rw [hN]
  clear hN
  have hK2 : (x.toNat : Int) = 6 := by omega
  clear hK
  obtain ⟨X, hX⟩ : ∃ X : St, (runA s true T ⟨[], [], (countA s o1 0 32).o, (countA s o1 0 32).e⟩ (countA s o1 0 32).v) = X := ⟨_, rfl⟩
  rw [hX]
  have HX : Hid ((runA s true T ⟨[], [], (countA s o1 0 32).o, (countA s o1 0 32).e⟩ (countA s o1 0 32).v) = X) := hX
  clear hX
  go_enter Try.func42, Try.ntmps42
  go_wp2_with fail
  refine hby.mono ?_
  rintro r w1 ⟨rfl, hk1, hon01⟩
  have hon1 : Only b w w1 := (Only.ofBelow hb4).trans hon01
  have r41 := (hon01.block w.heap.size (by simp) (by omega)).trans r4
  have hlt4 := lt_of_row r41
  have r6 := heap_alloc_new w1 (.cells #[.int .i64 6, .bool false, .int .i64 0, .string ⟨#[]⟩, .slice none 0 0, .slice none 0 0] 25)
  have hbx : Below w1.heap.size w1 (w1.alloc (.cells #[.int .i64 6, .bool false, .int .i64 0, .string ⟨#[]⟩, .slice none 0 0, .slice none 0 0] 25)) := (Below.refl _ w1).alloc (Nat.le_refl _) _
  have hk6 := hk1.later hbx
  have r46 := (hbx.block _ hlt4).trans r41
  have hon6 := hon1.trans (Only.ofBelow hbx)
  have hcall := takep_6 hs d hd0 (by omega) hT _ b o1 hk6 hle1 _ rfl countA_v (countA_le hle1) (fun o e h => ⟨textA_le h, by have := textA_size (s := s) (o := o) (er := e) (m := 16); omega⟩)
  rw [HX.out] at hcall
  have hcall2 : Calls Try.prog 76 #[.pointer (some ⟨b, 0, none⟩), .agg #[.int .i64 6, .bool false, .int .i64 0, .string ⟨#[]⟩, .slice none 0 0, .slice none 0 0], .int .i64 d] (w1.alloc (.cells #[.int .i64 6, .bool false, .int .i64 0, .string ⟨#[]⟩, .slice none 0 0, .slice none 0 0] 25)) fun r w' => ∃ A : Ad, r = .returned (.agg #[.int .i64 6, .bool false, .int .i64 0, .string ⟨#[]⟩, .slice A.pa X.ts.length A.pc, .slice A.na X.ns.length A.nc]) ∧ LiesS (fun k => (w1.alloc (.cells #[.int .i64 6, .bool false, .int .i64 0, .string ⟨#[]⟩, .slice none 0 0, .slice none 0 0] 25)).heap.size ≤ k ∧ k < w'.heap.size) w' (nodeT 6 X) A ∧ Cur w' b s (X.o : Int) X.e ∧ Only b (w1.alloc (.cells #[.int .i64 6, .bool false, .int .i64 0, .string ⟨#[]⟩, .slice none 0 0, .slice none 0 0] 25)) w' ∧ X.o ≤ s.size := hcall
  clear hcall
  go_wp2_with fail
  refine hcall2.mono ?_
  rintro r w2 ⟨A, rfl, hL2, hk2, hon2, hXo⟩
  have r42 := (hon2.block _ (lt_of_row r46) (by omega)).trans r46
  have hlb := lt_of_row hk1
  have r62 := (hon2.block w1.heap.size (by simp) (by omega)).trans r6
  have hon2' := hon6.trans hon2
  have a0 := cell_of_row w2 _ 0 _ _ _ r42
  have a1 := cell_of_row w2 _ 1 _ _ _ r42
  have a2 := cell_of_row w2 _ 2 _ _ _ r42
  have a3 := cell_of_row w2 _ 3 _ _ _ r42
  have a4 := cell_of_row w2 _ 4 _ _ _ r42
  have a5 := cell_of_row w2 _ 5 _ _ _ r42
  have b0 := frozen_of_row w2 _ 0 _ _ r42
  have b1 := frozen_of_row w2 _ 1 _ _ r42
  have b2 := frozen_of_row w2 _ 2 _ _ r42
  have b3 := frozen_of_row w2 _ 3 _ _ r42
  have b4 := frozen_of_row w2 _ 4 _ _ r42
  have b5 := frozen_of_row w2 _ 5 _ _ r42
  go_wp2
  change bodyPost _ _ _ _ _ (set6 w2 w.heap.size (.int .i64 6) (.bool false) (.int .i64 0) (.string ⟨#[]⟩) (.slice A.pa X.ts.length A.pc) (.slice A.na X.ns.length A.nc))
  have hro := set6_row r42 (.int .i64 6) (.bool false) (.int .i64 0) (.string ⟨#[]⟩) (.slice A.pa X.ts.length A.pc) (.slice A.na X.ns.length A.nc)
  have hkeep : ∀ k1, k1 ≠ w.heap.size → (set6 w2 w.heap.size (.int .i64 6) (.bool false) (.int .i64 0) (.string ⟨#[]⟩) (.slice A.pa X.ts.length A.pc) (.slice A.na X.ns.length A.nc)).heap[k1]? = w2.heap[k1]? := fun k1 h1 => set6_block _ _ _ _ _ _ _ _ k1 h1
  have hsz := set6_size w2 w.heap.size (.int .i64 6) (.bool false) (.int .i64 0) (.string ⟨#[]⟩) (.slice A.pa X.ts.length A.pc) (.slice A.na X.ns.length A.nc)
  have hof : Only b w (set6 w2 w.heap.size (.int .i64 6) (.bool false) (.int .i64 0) (.string ⟨#[]⟩) (.slice A.pa X.ts.length A.pc) (.slice A.na X.ns.length A.nc)) := only_set (only_set (only_set (only_set (only_set (only_set hon2' (Nat.le_refl _) 0 _) (Nat.le_refl _) 1 _) (Nat.le_refl _) 2 _) (Nat.le_refl _) 3 _) (Nat.le_refl _) 4 _) (Nat.le_refl _) 5 _
  obtain ⟨wf, hwf⟩ : ∃ wf, set6 w2 w.heap.size (.int .i64 6) (.bool false) (.int .i64 0) (.string ⟨#[]⟩) (.slice A.pa X.ts.length A.pc) (.slice A.na X.ns.length A.nc) = wf := ⟨_, rfl⟩
  rw [hwf] at hro hkeep hsz hof ⊢
  clear hwf
  have v0 := cell_of_row wf _ 0 _ _ _ hro
  have v1 := cell_of_row wf _ 1 _ _ _ hro
  have v2 := cell_of_row wf _ 2 _ _ _ hro
  have v3 := cell_of_row wf _ 3 _ _ _ hro
  have v4 := cell_of_row wf _ 4 _ _ _ hro
  have v5 := cell_of_row wf _ 5 _ _ _ hro
  refine bodyPost_ret (v := .agg #[.int .i64 6, .bool false, .int .i64 0, .string ⟨#[]⟩, .slice A.pa X.ts.length A.pc, .slice A.na X.ns.length A.nc]) (by simp [results, Try.results42, go_sem, v0, v1, v2, v3, v4, v5]) rfl ?_
  refine ⟨A, rfl, ?_, (hkeep b (by omega)).trans hk2, hof, hXo⟩
  refine (hL2.kept (fun k1 hk => hkeep k1 (by have := hk.1; simp at this; omega))).up (fun k1 hk => ?_)
  have := hk.1
  simp at this
  exact ⟨by omega, by rw [hsz]; exact hk.2⟩
theorem take_all {s : ByteArray} (hs : s.size ≤ 4096) : ∀ D : Nat, D ≤ 9 → TakeC s (9 - (D : Int)) (takeA s D)
  | 0, _ => take_deep hs
  | D + 1, hD => by
    have ih := take_all hs D (by omega)
    intro w b o e hcu ho
    have hd : (9 : Int) - ((D + 1 : Nat) : Int) + 1 = 9 - (D : Int) := by omega
    obtain ⟨d, hdd⟩ : ∃ d : Int, (9 : Int) - ((D + 1 : Nat) : Int) = d := ⟨_, rfl⟩
    rw [hdd] at hd ⊢
    have hd0 : 0 ≤ d := by omega
    have hd8 : d ≤ 8 := by omega
    rw [← hd] at ih
    rw [takeA]
    by_cases he : e = 0
    · subst he
      rw [if_pos rfl]
      by_cases h1 : o < s.size
      · rw [if_pos h1]
        obtain ⟨x, hx⟩ : ∃ x, s.data.toList.getD o 0 = x := ⟨_, rfl⟩
        have hb : byteAt s o = x.toNat := by unfold byteAt; rw [hx]
        rw [hb]
        by_cases k0 : x.toNat = 0
        · exact take_0 hs d hd0 hd8 w b o hcu h1 x hx k0
        by_cases k1 : x.toNat = 1
        · exact take_1 hs d hd0 hd8 w b o hcu h1 x hx k1
        by_cases k2 : x.toNat = 2
        · exact take_2 hs d hd0 hd8 w b o hcu h1 x hx k2
        by_cases k3 : x.toNat = 3
        · exact take_3 hs d hd0 hd8 w b o hcu h1 x hx k3
        by_cases k4 : x.toNat = 4
        · exact take_4 hs d hd0 hd8 w b o hcu h1 x hx k4
        by_cases k5 : x.toNat = 5
        · exact take_5 hs d hd0 hd8 ih w b o hcu h1 x hx k5
        by_cases k6 : x.toNat = 6
        · exact take_6 hs d hd0 hd8 ih w b o hcu h1 x hx k6
        exact take_bad hs d hd0 hd8 w b o hcu h1 x hx (by omega)
      · rw [if_neg h1]
        refine take_none hs d hd8 w b o 0 4 hcu ho ?_
        unfold bytesA
        rw [if_pos rfl, if_neg (by omega), if_pos (by omega)]
    · rw [if_neg he]
      refine take_none hs d hd8 w b o e e hcu ho ?_
      unfold bytesA
      rw [if_neg he]
end Go.Proofs.Ytjmjlijmeahmfaa
