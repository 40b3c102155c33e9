/- The document's cursor takes yes or no, and texts (Bool, Text): what it answers in plain words; nothing that was there has changed. -/
import Derived.Test.YtmijbflgfbfbiaaRbytes
import Derived.WalkKit
import Derived.WalkSpells
import Derived.WalkLawsBesides
import Derived.Deep.QuietTactic
import Derived.BigQuiet
import Derived.Deep.RegionWith
import Derived.Deep.RegionHeld3
import Derived.Lib.Strings
namespace Go.Proofs.Ytmijbflgfbfbiaa
open Go.RowKit
set_option maxHeartbeats 1000000 in
theorem rbool_none (s : ByteArray) (o : Nat) (er : Int) (e' : Int) (h0 : e' ≠ 0)
    (hby : ∀ W : World, Calls Try.prog 30 #[.agg #[.string s, .int .i64 (o : Int), .int .i64 er], .int .i64 1] W fun r w' => r = .returned (.tuple #[.agg #[.string s, .int .i64 (o : Int), .int .i64 e'], .string ⟨#[]⟩]) ∧ Below W.heap.size W w') (w : World) :
    Calls Try.prog 27 #[.agg #[.string s, .int .i64 (o : Int), .int .i64 er]] w fun r w' => r = .returned (.tuple #[.agg #[.string s, .int .i64 (o : Int), .int .i64 e'], .bool false]) ∧ Below w.heap.size w w' := by
  go_enter Try.func27, Try.ntmps27
  go_wp2_with fail
  refine (hby _).mono ?_
  rintro e w1 ⟨rfl, hb1⟩
  obtain ⟨hB, hS⟩ := below_call _ _ hb1
  obtain ⟨r1, r2⟩ := row_call _ _ hb1
  obtain ⟨⟨c0, c1, c2⟩, f0, f1, f2⟩ := row3 (row_alloc r2 (.cells #[.string s, .int .i64 (o : Int), .int .i64 e'] 36))
  clear hb1 hby
  go_wp2
  exact bodyPost_ret (v := .tuple #[.agg #[.string s, .int .i64 (o : Int), .int .i64 e'], .bool false]) (by simp [results, Try.results27, go_sem, c0, c1, c2]) rfl ⟨rfl, below_set3 (hB.alloc hB.size _) (Nat.le_succ _) _ _ _⟩
set_option maxHeartbeats 1000000 in
theorem rbool_big (s : ByteArray) (o : Nat) (o1 : Int) (x : UInt8) (y : ByteArray) (hys : 0 < y.size) (hy0 : y[0] = x) (h1 : (1 : Int) < (x.toNat : Int))
    (hby : ∀ W : World, Calls Try.prog 30 #[.agg #[.string s, .int .i64 (o : Int), .int .i64 0], .int .i64 1] W fun r w' => r = .returned (.tuple #[.agg #[.string s, .int .i64 o1, .int .i64 0], .string y]) ∧ Below W.heap.size W w') (w : World) :
    Calls Try.prog 27 #[.agg #[.string s, .int .i64 (o : Int), .int .i64 0]] w fun r w' => r = .returned (.tuple #[.agg #[.string s, .int .i64 (o : Int), .int .i64 6], .bool false]) ∧ Below w.heap.size w w' := by
  go_enter Try.func27, Try.ntmps27
  go_wp2_with fail
  refine (hby _).mono ?_
  rintro e w1 ⟨rfl, hb1⟩
  obtain ⟨hB, hS⟩ := below_call _ _ hb1
  obtain ⟨r1, r2⟩ := row_call _ _ hb1
  obtain ⟨⟨c0, c1, c2⟩, f0, f1, f2⟩ := row3 (row_alloc r1 (.cells #[.string s, .int .i64 o1, .int .i64 0] 36))
  clear hb1 hby
  go_wp2_with fail
  refine (with_any _ _ _ _ _).mono ?_
  rintro e w2 ⟨rfl, hb2⟩
  obtain ⟨⟨d0, d1, d2⟩, g0, g1, g2⟩ := row3 ((hb2.block _ (lt_of_row (row_alloc r2 _))).trans (row_alloc r2 _))
  go_wp2
  exact bodyPost_ret (v := .tuple #[.agg #[.string s, .int .i64 (o : Int), .int .i64 6], .bool false]) (by simp [results, Try.results27, go_sem, d0, d1, d2]) rfl ⟨rfl, below_set3 ((hB.alloc hB.size _).trans (hb2.mono (hB.alloc hB.size _).size)) (Nat.le_succ _) _ _ _⟩
set_option maxHeartbeats 1000000 in
theorem rbool_ok (s : ByteArray) (o : Nat) (o1 : Int) (x : UInt8) (y : ByteArray) (hys : 0 < y.size) (hy0 : y[0] = x) (h1 : ¬ (1 : Int) < (x.toNat : Int)) (r : Bool) (hr : (y.toList == [1]) = r)
    (hby : ∀ W : World, Calls Try.prog 30 #[.agg #[.string s, .int .i64 (o : Int), .int .i64 0], .int .i64 1] W fun r w' => r = .returned (.tuple #[.agg #[.string s, .int .i64 o1, .int .i64 0], .string y]) ∧ Below W.heap.size W w') (w : World) :
    Calls Try.prog 27 #[.agg #[.string s, .int .i64 (o : Int), .int .i64 0]] w fun e w' => e = .returned (.tuple #[.agg #[.string s, .int .i64 o1, .int .i64 0], .bool r]) ∧ Below w.heap.size w w' := by
  go_enter Try.func27, Try.ntmps27
  go_wp2_with fail
  refine (hby _).mono ?_
  rintro e w1 ⟨rfl, hb1⟩
  obtain ⟨hB, hS⟩ := below_call _ _ hb1
  obtain ⟨r1, r2⟩ := row_call _ _ hb1
  obtain ⟨⟨c0, c1, c2⟩, f0, f1, f2⟩ := row3 (row_alloc r2 (.cells #[.string s, .int .i64 o1, .int .i64 0] 36))
  clear hb1 hby
  go_wp2
  exact bodyPost_ret (v := .tuple #[.agg #[.string s, .int .i64 o1, .int .i64 0], .bool r]) (by simp [results, Try.results27, go_sem, c0, c1, c2]) rfl ⟨rfl, below_set3 (hB.alloc hB.size _) (Nat.le_succ _) _ _ _⟩
theorem one_eq (x : UInt8) : ((⟨#[x]⟩ : ByteArray).toList == [1]) = ((x.toNat : Int) == 1) := by
  rw [Lib.toList_data]
  show ([x] == [1]) = _
  by_cases h : x = 1
  · subst h; rfl
  · have h1 : ([x] : List UInt8) ≠ [1] := fun e => h (List.cons.inj e).1
    have h2 : (x.toNat : Int) ≠ 1 := fun e => h (UInt8.toNat_inj.mp (by show x.toNat = 1; omega))
    rw [beq_eq_false_iff_ne.mpr h1, beq_eq_false_iff_ne.mpr h2]
theorem rbool_at (s : ByteArray) (o : Nat) (er : Int) (ho : o ≤ s.size) (hs : s.size ≤ 4096) (w : World) :
    Calls Try.prog 27 #[.agg #[.string s, .int .i64 (o : Int), .int .i64 er]] w fun r w' => r = .returned (.tuple #[.agg #[.string s, .int .i64 ((boolA s o er).o : Int), .int .i64 (boolA s o er).e], .bool (boolA s o er).v]) ∧ Below w.heap.size w w' := by
  have hby := fun W => rbytes_at s o er 1 ho hs W
  by_cases h0 : er = 0
  · subst h0
    by_cases h1 : o < s.size
    · have hA : bytesA s o 0 1 = ⟨s.extract o (o + 1), o + 1, 0⟩ := by unfold bytesA; rw [if_pos rfl, if_neg (by omega), if_neg (by omega)]; rfl
      rw [hA, ext1' s o h1] at hby
      have hB : boolA s o 0 = if 1 < byteAt s o then ⟨false, o, 6⟩ else ⟨(byteAt s o : Int) == 1, o + 1, 0⟩ := by unfold boolA; rw [if_pos rfl, if_pos h1]
      have hC : byteAt s o = (s.data.toList.getD o 0).toNat := rfl
      rw [hB, hC]
      obtain ⟨x, hx⟩ : ∃ x, s.data.toList.getD o 0 = x := ⟨_, rfl⟩
      rw [hx] at hby ⊢
      by_cases h2 : 1 < x.toNat
      · rw [if_pos h2]
        exact rbool_big s o _ x ⟨#[x]⟩ Nat.zero_lt_one rfl (by omega) hby w
      · rw [if_neg h2]
        exact rbool_ok s o _ x ⟨#[x]⟩ Nat.zero_lt_one rfl (by omega) _ (one_eq x) hby w
    · have hA : bytesA s o 0 1 = ⟨⟨#[]⟩, o, 4⟩ := by unfold bytesA; rw [if_pos rfl, if_neg (by omega), if_pos (by omega)]
      have hB : boolA s o 0 = ⟨false, o, 4⟩ := by unfold boolA; rw [if_pos rfl, if_neg h1]
      rw [hA] at hby
      rw [hB]
      exact rbool_none s o 0 4 (by decide) hby w
  · have hA : bytesA s o er 1 = ⟨⟨#[]⟩, o, er⟩ := if_neg h0
    have hB : boolA s o er = ⟨false, o, er⟩ := if_neg h0
    rw [hA] at hby
    rw [hB]
    exact rbool_none s o er er h0 hby w
set_option maxHeartbeats 1000000 in
theorem rtext_with (s : ByteArray) (o : Nat) (m M o1 e1 n o2 e2 : Int) (y : ByteArray) (hM : M = min m 1048576) (h2 : e2 ≠ 0)
    (hco : ∀ W : World, Calls Try.prog 23 #[.agg #[.string s, .int .i64 (o : Int), .int .i64 0], .int .i64 M] W fun r w' => r = .returned (.tuple #[.agg #[.string s, .int .i64 o1, .int .i64 e1], .int .i64 n]) ∧ Below W.heap.size W w')
    (hby : ∀ W : World, Calls Try.prog 30 #[.agg #[.string s, .int .i64 o1, .int .i64 e1], .int .i64 n] W fun r w' => r = .returned (.tuple #[.agg #[.string s, .int .i64 o2, .int .i64 e2], .string y]) ∧ Below W.heap.size W w') (w : World) :
    Calls Try.prog 25 #[.agg #[.string s, .int .i64 (o : Int), .int .i64 0], .int .i64 m] w fun r w' => r = .returned (.tuple #[.agg #[.string s, .int .i64 (o : Int), .int .i64 e2], .string ⟨#[]⟩]) ∧ Below w.heap.size w w' := by
  have hb2' : (e2 == 0) = false := beq_eq_false_iff_ne.mpr h2
  by_cases hm : 1048576 < m
  · obtain rfl : M = 1048576 := by omega
    clear hM
    go_enter Try.func25, Try.ntmps25
    go_wp2_with fail
    refine (hco _).mono ?_
    rintro e w1 ⟨rfl, hb1⟩
    obtain ⟨hB, hS⟩ := below_call _ _ hb1
    obtain ⟨r1, r2⟩ := row_call _ _ hb1
    go_wp2_with fail
    refine (hby _).mono ?_
    rintro e w2 ⟨rfl, hb2⟩
    have hB1 := hB.alloc hB.size (.cells #[.string s, .int .i64 o1, .int .i64 e1] 36)
    have hB2 := hB1.trans (hb2.mono hB1.size)
    have q1 := (hb2.block _ (lt_of_row (row_alloc r1 _))).trans (row_alloc r1 _)
    have q2 := (hb2.block _ (lt_of_row (row_alloc r2 _))).trans (row_alloc r2 _)
    obtain ⟨⟨c0, c1, c2⟩, f0, f1, f2⟩ := row3 (row_alloc q1 (.cells #[.string s, .int .i64 o2, .int .i64 e2] 36))
    obtain ⟨⟨k0, k1, k2⟩, j0, j1, j2⟩ := row3 (row_alloc q2 (.cells #[.string s, .int .i64 o2, .int .i64 e2] 36))
    go_wp2_with fail
    refine (with_any _ _ _ _ _).mono ?_
    rintro e w3 ⟨rfl, hb3⟩
    have hB3 := hB2.alloc hB2.size (.cells #[.string s, .int .i64 o2, .int .i64 e2] 36)
    obtain ⟨⟨d0, d1, d2⟩, g0, g1, g2⟩ := row3 ((hb3.block _ (lt_of_row (row_alloc q2 _))).trans (row_alloc q2 _))
    clear c0 c1 c2 f0 f1 f2 k0 k1 k2 j0 j1 j2
    go_wp2
    exact bodyPost_ret (v := .tuple #[.agg #[.string s, .int .i64 (o : Int), .int .i64 e2], .string ⟨#[]⟩]) (by simp [results, Try.results25, go_sem, d0, d1, d2]) rfl ⟨rfl, below_set3 (hB3.trans (hb3.mono hB3.size)) (Nat.le_succ _) _ _ _⟩
  · obtain rfl : M = m := by omega
    clear hM
    go_enter Try.func25, Try.ntmps25
    go_wp2_with fail
    refine (hco _).mono ?_
    rintro e w1 ⟨rfl, hb1⟩
    obtain ⟨hB, hS⟩ := below_call _ _ hb1
    obtain ⟨r1, r2⟩ := row_call _ _ hb1
    go_wp2_with fail
    refine (hby _).mono ?_
    rintro e w2 ⟨rfl, hb2⟩
    have hB1 := hB.alloc hB.size (.cells #[.string s, .int .i64 o1, .int .i64 e1] 36)
    have hB2 := hB1.trans (hb2.mono hB1.size)
    have q1 := (hb2.block _ (lt_of_row (row_alloc r1 _))).trans (row_alloc r1 _)
    have q2 := (hb2.block _ (lt_of_row (row_alloc r2 _))).trans (row_alloc r2 _)
    obtain ⟨⟨c0, c1, c2⟩, f0, f1, f2⟩ := row3 (row_alloc q1 (.cells #[.string s, .int .i64 o2, .int .i64 e2] 36))
    obtain ⟨⟨k0, k1, k2⟩, j0, j1, j2⟩ := row3 (row_alloc q2 (.cells #[.string s, .int .i64 o2, .int .i64 e2] 36))
    go_wp2_with fail
    refine (with_any _ _ _ _ _).mono ?_
    rintro e w3 ⟨rfl, hb3⟩
    have hB3 := hB2.alloc hB2.size (.cells #[.string s, .int .i64 o2, .int .i64 e2] 36)
    obtain ⟨⟨d0, d1, d2⟩, g0, g1, g2⟩ := row3 ((hb3.block _ (lt_of_row (row_alloc q2 _))).trans (row_alloc q2 _))
    clear c0 c1 c2 f0 f1 f2 k0 k1 k2 j0 j1 j2
    go_wp2
    exact bodyPost_ret (v := .tuple #[.agg #[.string s, .int .i64 (o : Int), .int .i64 e2], .string ⟨#[]⟩]) (by simp [results, Try.results25, go_sem, d0, d1, d2]) rfl ⟨rfl, below_set3 (hB3.trans (hb3.mono hB3.size)) (Nat.le_succ _) _ _ _⟩
set_option maxHeartbeats 1000000 in
theorem rtext_err (s : ByteArray) (o : Nat) (er m M o1 e1 n o2 e2 : Int) (y : ByteArray) (hM : M = min m 1048576) (h0 : er ≠ 0) (h2 : e2 ≠ 0)
    (hco : ∀ W : World, Calls Try.prog 23 #[.agg #[.string s, .int .i64 (o : Int), .int .i64 er], .int .i64 M] W fun r w' => r = .returned (.tuple #[.agg #[.string s, .int .i64 o1, .int .i64 e1], .int .i64 n]) ∧ Below W.heap.size W w')
    (hby : ∀ W : World, Calls Try.prog 30 #[.agg #[.string s, .int .i64 o1, .int .i64 e1], .int .i64 n] W fun r w' => r = .returned (.tuple #[.agg #[.string s, .int .i64 o2, .int .i64 e2], .string y]) ∧ Below W.heap.size W w') (w : World) :
    Calls Try.prog 25 #[.agg #[.string s, .int .i64 (o : Int), .int .i64 er], .int .i64 m] w fun r w' => r = .returned (.tuple #[.agg #[.string s, .int .i64 o2, .int .i64 e2], .string y]) ∧ Below w.heap.size w w' := by
  have hb2' : (e2 == 0) = false := beq_eq_false_iff_ne.mpr h2
  have hb0 : (er == 0) = false := beq_eq_false_iff_ne.mpr h0
  by_cases hm : 1048576 < m
  · obtain rfl : M = 1048576 := by omega
    clear hM
    go_enter Try.func25, Try.ntmps25
    go_wp2_with fail
    refine (hco _).mono ?_
    rintro e w1 ⟨rfl, hb1⟩
    obtain ⟨hB, hS⟩ := below_call _ _ hb1
    obtain ⟨r1, r2⟩ := row_call _ _ hb1
    go_wp2_with fail
    refine (hby _).mono ?_
    rintro e w2 ⟨rfl, hb2⟩
    have hB1 := hB.alloc hB.size (.cells #[.string s, .int .i64 o1, .int .i64 e1] 36)
    have hB2 := hB1.trans (hb2.mono hB1.size)
    have q1 := (hb2.block _ (lt_of_row (row_alloc r1 _))).trans (row_alloc r1 _)
    have q2 := (hb2.block _ (lt_of_row (row_alloc r2 _))).trans (row_alloc r2 _)
    obtain ⟨⟨c0, c1, c2⟩, f0, f1, f2⟩ := row3 (row_alloc q1 (.cells #[.string s, .int .i64 o2, .int .i64 e2] 36))
    obtain ⟨⟨k0, k1, k2⟩, j0, j1, j2⟩ := row3 (row_alloc q2 (.cells #[.string s, .int .i64 o2, .int .i64 e2] 36))
    go_wp2
    exact bodyPost_ret (v := .tuple #[.agg #[.string s, .int .i64 o2, .int .i64 e2], .string y]) (by simp [results, Try.results25, go_sem, k0, k1, k2]) rfl ⟨rfl, below_set3 (hB2.alloc hB2.size _) (Nat.le_succ _) _ _ _⟩
  · obtain rfl : M = m := by omega
    clear hM
    go_enter Try.func25, Try.ntmps25
    go_wp2_with fail
    refine (hco _).mono ?_
    rintro e w1 ⟨rfl, hb1⟩
    obtain ⟨hB, hS⟩ := below_call _ _ hb1
    obtain ⟨r1, r2⟩ := row_call _ _ hb1
    go_wp2_with fail
    refine (hby _).mono ?_
    rintro e w2 ⟨rfl, hb2⟩
    have hB1 := hB.alloc hB.size (.cells #[.string s, .int .i64 o1, .int .i64 e1] 36)
    have hB2 := hB1.trans (hb2.mono hB1.size)
    have q1 := (hb2.block _ (lt_of_row (row_alloc r1 _))).trans (row_alloc r1 _)
    have q2 := (hb2.block _ (lt_of_row (row_alloc r2 _))).trans (row_alloc r2 _)
    obtain ⟨⟨c0, c1, c2⟩, f0, f1, f2⟩ := row3 (row_alloc q1 (.cells #[.string s, .int .i64 o2, .int .i64 e2] 36))
    obtain ⟨⟨k0, k1, k2⟩, j0, j1, j2⟩ := row3 (row_alloc q2 (.cells #[.string s, .int .i64 o2, .int .i64 e2] 36))
    go_wp2
    exact bodyPost_ret (v := .tuple #[.agg #[.string s, .int .i64 o2, .int .i64 e2], .string y]) (by simp [results, Try.results25, go_sem, k0, k1, k2]) rfl ⟨rfl, below_set3 (hB2.alloc hB2.size _) (Nat.le_succ _) _ _ _⟩
set_option maxHeartbeats 1000000 in
theorem rtext_ok (s : ByteArray) (o : Nat) (er m M o1 e1 n o2 : Int) (y : ByteArray) (hM : M = min m 1048576) 
    (hco : ∀ W : World, Calls Try.prog 23 #[.agg #[.string s, .int .i64 (o : Int), .int .i64 er], .int .i64 M] W fun r w' => r = .returned (.tuple #[.agg #[.string s, .int .i64 o1, .int .i64 e1], .int .i64 n]) ∧ Below W.heap.size W w')
    (hby : ∀ W : World, Calls Try.prog 30 #[.agg #[.string s, .int .i64 o1, .int .i64 e1], .int .i64 n] W fun r w' => r = .returned (.tuple #[.agg #[.string s, .int .i64 o2, .int .i64 0], .string y]) ∧ Below W.heap.size W w') (w : World) :
    Calls Try.prog 25 #[.agg #[.string s, .int .i64 (o : Int), .int .i64 er], .int .i64 m] w fun r w' => r = .returned (.tuple #[.agg #[.string s, .int .i64 o2, .int .i64 0], .string y]) ∧ Below w.heap.size w w' := by
  by_cases hm : 1048576 < m
  · obtain rfl : M = 1048576 := by omega
    clear hM
    go_enter Try.func25, Try.ntmps25
    go_wp2_with fail
    refine (hco _).mono ?_
    rintro e w1 ⟨rfl, hb1⟩
    obtain ⟨hB, hS⟩ := below_call _ _ hb1
    obtain ⟨r1, r2⟩ := row_call _ _ hb1
    go_wp2_with fail
    refine (hby _).mono ?_
    rintro e w2 ⟨rfl, hb2⟩
    have hB1 := hB.alloc hB.size (.cells #[.string s, .int .i64 o1, .int .i64 e1] 36)
    have hB2 := hB1.trans (hb2.mono hB1.size)
    have q1 := (hb2.block _ (lt_of_row (row_alloc r1 _))).trans (row_alloc r1 _)
    have q2 := (hb2.block _ (lt_of_row (row_alloc r2 _))).trans (row_alloc r2 _)
    obtain ⟨⟨c0, c1, c2⟩, f0, f1, f2⟩ := row3 (row_alloc q1 (.cells #[.string s, .int .i64 o2, .int .i64 0] 36))
    obtain ⟨⟨k0, k1, k2⟩, j0, j1, j2⟩ := row3 (row_alloc q2 (.cells #[.string s, .int .i64 o2, .int .i64 0] 36))
    go_wp2
    exact bodyPost_ret (v := .tuple #[.agg #[.string s, .int .i64 o2, .int .i64 0], .string y]) (by simp [results, Try.results25, go_sem, k0, k1, k2]) rfl ⟨rfl, below_set3 (hB2.alloc hB2.size _) (Nat.le_succ _) _ _ _⟩
  · obtain rfl : M = m := by omega
    clear hM
    go_enter Try.func25, Try.ntmps25
    go_wp2_with fail
    refine (hco _).mono ?_
    rintro e w1 ⟨rfl, hb1⟩
    obtain ⟨hB, hS⟩ := below_call _ _ hb1
    obtain ⟨r1, r2⟩ := row_call _ _ hb1
    go_wp2_with fail
    refine (hby _).mono ?_
    rintro e w2 ⟨rfl, hb2⟩
    have hB1 := hB.alloc hB.size (.cells #[.string s, .int .i64 o1, .int .i64 e1] 36)
    have hB2 := hB1.trans (hb2.mono hB1.size)
    have q1 := (hb2.block _ (lt_of_row (row_alloc r1 _))).trans (row_alloc r1 _)
    have q2 := (hb2.block _ (lt_of_row (row_alloc r2 _))).trans (row_alloc r2 _)
    obtain ⟨⟨c0, c1, c2⟩, f0, f1, f2⟩ := row3 (row_alloc q1 (.cells #[.string s, .int .i64 o2, .int .i64 0] 36))
    obtain ⟨⟨k0, k1, k2⟩, j0, j1, j2⟩ := row3 (row_alloc q2 (.cells #[.string s, .int .i64 o2, .int .i64 0] 36))
    go_wp2
    exact bodyPost_ret (v := .tuple #[.agg #[.string s, .int .i64 o2, .int .i64 0], .string y]) (by simp [results, Try.results25, go_sem, k0, k1, k2]) rfl ⟨rfl, below_set3 (hB2.alloc hB2.size _) (Nat.le_succ _) _ _ _⟩
end Go.Proofs.Ytmijbflgfbfbiaa
