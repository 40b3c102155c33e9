/- The document's cursor takes (Uint, Int, Count, Bytes) and ends (End): what it answers in plain words; nothing that was there has changed. -/
import Derived.Test.YtmijbflgfbfbiaaRcur
import Derived.WalkKit
import Derived.WalkSpells
import Derived.WalkLawsBesides
import Derived.Deep.QuietTactic
import Derived.BigQuiet
import Derived.Deep.RegionWith
import Derived.Lib.Strings
namespace Go.Proofs.Ytmijbflgfbfbiaa
open Go.RowKit
theorem ruint_at (s : ByteArray) (o : Nat) (er : Int) (ho : o ≤ s.size) (hs : s.size ≤ 4096) (w : World) :
    Calls Try.prog 19 #[.agg #[.string s, .int .i64 (o : Int), .int .i64 er]] w fun r w' => r = .returned (.tuple #[.agg #[.string s, .int .i64 ((uintA s o er).o : Int), .int .i64 (uintA s o er).e], .int .u64 ((uintA s o er).v : Int)]) ∧ Below w.heap.size w w' := by
  by_cases h0 : er = 0
  · subst h0
    have hA : uintA s o 0 = ⟨(tkA s o).n, o + (tkA s o).sz, (tkA s o).er⟩ := if_pos rfl
    rw [hA]
    exact ruint_ok s o ho hs (tkA s o) rfl w
  · have hA : uintA s o er = ⟨0, o, er⟩ := if_neg h0
    rw [hA]
    exact ruint_err s o er h0 w
theorem below_call {w w1 : World} (a b : Obj) (hb : Below ((w.alloc a).alloc b).heap.size ((w.alloc a).alloc b) w1) : Below w.heap.size w w1 ∧ w.heap.size + 2 ≤ w1.heap.size := by
  have h := below_two w a b
  have h2 := hb.size
  simp at h2
  exact ⟨h.trans (hb.mono h.size), by omega⟩
theorem row_call {w w1 : World} (a b : Obj) (hb : Below ((w.alloc a).alloc b).heap.size ((w.alloc a).alloc b) w1) : w1.heap[w.heap.size]? = some a ∧ w1.heap[w.heap.size + 1]? = some b :=
  ⟨(hb.block _ (by simp; omega)).trans (heap_alloc2_old w a b), (hb.block _ (by simp)).trans (heap_alloc2_new w a b)⟩
theorem row_alloc {W : World} {g : Nat} {x : Obj} (h : W.heap[g]? = some x) (o : Obj) : (W.alloc o).heap[g]? = some x := (heap_alloc_old W o (lt_of_row h)).trans h
set_option maxHeartbeats 1000000 in
theorem rint_at (s : ByteArray) (o : Nat) (er : Int) (ho : o ≤ s.size) (hs : s.size ≤ 4096) (w : World) :
    Calls Try.prog 22 #[.agg #[.string s, .int .i64 (o : Int), .int .i64 er]] w fun r w' => r = .returned (.tuple #[.agg #[.string s, .int .i64 ((uintA s o er).o : Int), .int .i64 (uintA s o er).e], .int .i64 (zag (uintA s o er).v)]) ∧ Below w.heap.size w w' := by
  have hlt := uintA_lt (er := er) ho
  have huint := fun W => ruint_at s o er ho hs W
  obtain ⟨A, hA⟩ : ∃ A, uintA s o er = A := ⟨_, rfl⟩
  rw [hA] at hlt ⊢
  simp only [hA] at huint
  clear hA
  obtain ⟨n, o', e'⟩ := A
  dsimp only at huint hlt ⊢
  have hw : IntKind.i64.wrap ((n : Int) / 2) = (n : Int) / 2 := by rw [IntKind.wrap_i64]; omega
  by_cases h1 : n % 2 = 1
  · have hz : zag n = -((n : Int) / 2) - 1 := by unfold zag; rw [if_pos h1]; omega
    rw [hz]
    clear hz
    have h1' : (n : Int) % 2 = 1 := by omega
    have hw2 : IntKind.i64.wrap (-((n : Int) / 2)) = -((n : Int) / 2) := by rw [IntKind.wrap_i64]; omega
    have hw3 : IntKind.i64.wrap (-((n : Int) / 2) - 1) = -((n : Int) / 2) - 1 := by rw [IntKind.wrap_i64]; omega
    go_enter Try.func22, Try.ntmps22
    go_wp2_with fail
    refine (huint _).mono ?_
    rintro e w1 ⟨rfl, hb1⟩
    obtain ⟨hB, hS⟩ := below_call _ _ hb1
    obtain ⟨r1, r2⟩ := row_call _ _ hb1
    obtain ⟨⟨c0, c1, c2⟩, f0, f1, f2⟩ := row3 (row_alloc r2 (.cells #[.string s, .int .i64 (o' : Int), .int .i64 e'] 36))
    clear hb1 huint
    go_wp2
    exact bodyPost_ret (v := .tuple #[.agg #[.string s, .int .i64 (o' : Int), .int .i64 e'], .int .i64 (-((n : Int) / 2) - 1)]) (by simp [results, Try.results22, go_sem, c0, c1, c2]) rfl ⟨rfl, below_set3 (hB.alloc hB.size _) (Nat.le_succ _) _ _ _⟩
  · have hz : zag n = (n : Int) / 2 := by unfold zag; rw [if_neg h1]; omega
    rw [hz]
    clear hz
    have h1' : ¬ (n : Int) % 2 = 1 := by omega
    go_enter Try.func22, Try.ntmps22
    go_wp2_with fail
    refine (huint _).mono ?_
    rintro e w1 ⟨rfl, hb1⟩
    obtain ⟨hB, hS⟩ := below_call _ _ hb1
    obtain ⟨r1, r2⟩ := row_call _ _ hb1
    obtain ⟨⟨c0, c1, c2⟩, f0, f1, f2⟩ := row3 (row_alloc r2 (.cells #[.string s, .int .i64 (o' : Int), .int .i64 e'] 36))
    clear hb1 huint
    go_wp2
    exact bodyPost_ret (v := .tuple #[.agg #[.string s, .int .i64 (o' : Int), .int .i64 e'], .int .i64 ((n : Int) / 2)]) (by simp [results, Try.results22, go_sem, c0, c1, c2]) rfl ⟨rfl, below_set3 (hB.alloc hB.size _) (Nat.le_succ _) _ _ _⟩
theorem rcount_gen (s : ByteArray) (o : Nat) (er m : Int) (n o' : Nat) (e' : Int) (hn : n < 18446744073709551616) (hm : m < 9223372036854775808) (he : e' ≠ 0 → n = 0)
    (huint : ∀ W : World, Calls Try.prog 19 #[.agg #[.string s, .int .i64 (o : Int), .int .i64 er]] W fun r w' => r = .returned (.tuple #[.agg #[.string s, .int .i64 (o' : Int), .int .i64 e'], .int .u64 (n : Int)]) ∧ Below W.heap.size W w') (w : World) :
    Calls Try.prog 23 #[.agg #[.string s, .int .i64 (o : Int), .int .i64 er], .int .i64 m] w fun r w' =>
      (if e' = 0 ∧ (m < 0 ∨ m < (n : Int)) then r = .returned (.tuple #[.agg #[.string s, .int .i64 (o : Int), .int .i64 3], .int .i64 0]) else r = .returned (.tuple #[.agg #[.string s, .int .i64 (o' : Int), .int .i64 e'], .int .i64 (n : Int)])) ∧ Below w.heap.size w w' := by
  by_cases hc : e' = 0 ∧ (m < 0 ∨ m < (n : Int))
  · simp only [if_pos hc]
    obtain ⟨rfl, hc⟩ := hc
    clear he
    by_cases hm0 : m < 0
    · clear hc
      go_enter Try.func23, Try.ntmps23
      go_wp2_with fail
      refine (huint _).mono ?_
      rintro e w1 ⟨rfl, hb1⟩
      obtain ⟨hB, hS⟩ := below_call _ _ hb1
      obtain ⟨r1, r2⟩ := row_call _ _ hb1
      obtain ⟨⟨c0, c1, c2⟩, f0, f1, f2⟩ := row3 (row_alloc r1 (.cells #[.string s, .int .i64 (o' : Int), .int .i64 0] 36))
      clear hb1 huint
      go_wp2_with fail
      refine (with_any _ _ _ _ _).mono ?_
      rintro e w2 ⟨rfl, hb2⟩
      obtain ⟨⟨d0, d1, d2⟩, g0, g1, g2⟩ := row3 ((hb2.block _ (lt_of_row (row_alloc r2 _))).trans (row_alloc r2 _))
      go_wp2
      exact bodyPost_ret (v := .tuple #[.agg #[.string s, .int .i64 (o : Int), .int .i64 3], .int .i64 0]) (by simp [results, Try.results23, go_sem, d0, d1, d2]) rfl ⟨rfl, below_set3 ((hB.alloc hB.size _).trans (hb2.mono (hB.alloc hB.size _).size)) (Nat.le_succ _) _ _ _⟩
    · have hw : IntKind.u64.wrap m = m := by rw [IntKind.wrap_u64]; omega
      have hg : m < (n : Int) := by omega
      clear hc
      go_enter Try.func23, Try.ntmps23
      go_wp2_with fail
      refine (huint _).mono ?_
      rintro e w1 ⟨rfl, hb1⟩
      obtain ⟨hB, hS⟩ := below_call _ _ hb1
      obtain ⟨r1, r2⟩ := row_call _ _ hb1
      obtain ⟨⟨c0, c1, c2⟩, f0, f1, f2⟩ := row3 (row_alloc r1 (.cells #[.string s, .int .i64 (o' : Int), .int .i64 0] 36))
      clear hb1 huint
      go_wp2_with fail
      refine (with_any _ _ _ _ _).mono ?_
      rintro e w2 ⟨rfl, hb2⟩
      obtain ⟨⟨d0, d1, d2⟩, g0, g1, g2⟩ := row3 ((hb2.block _ (lt_of_row (row_alloc r2 _))).trans (row_alloc r2 _))
      go_wp2
      exact bodyPost_ret (v := .tuple #[.agg #[.string s, .int .i64 (o : Int), .int .i64 3], .int .i64 0]) (by simp [results, Try.results23, go_sem, d0, d1, d2]) rfl ⟨rfl, below_set3 ((hB.alloc hB.size _).trans (hb2.mono (hB.alloc hB.size _).size)) (Nat.le_succ _) _ _ _⟩
  · simp only [if_neg hc]
    by_cases he0 : e' = 0
    · subst he0
      have hm0 : ¬ m < 0 := fun h => hc ⟨rfl, Or.inl h⟩
      have hg : ¬ m < (n : Int) := fun h => hc ⟨rfl, Or.inr h⟩
      have hw : IntKind.u64.wrap m = m := by rw [IntKind.wrap_u64]; omega
      have hw2 : IntKind.i64.wrap (n : Int) = (n : Int) := by rw [IntKind.wrap_i64]; omega
      clear hc he
      go_enter Try.func23, Try.ntmps23
      go_wp2_with fail
      refine (huint _).mono ?_
      rintro e w1 ⟨rfl, hb1⟩
      obtain ⟨hB, hS⟩ := below_call _ _ hb1
      obtain ⟨r1, r2⟩ := row_call _ _ hb1
      obtain ⟨⟨c0, c1, c2⟩, f0, f1, f2⟩ := row3 (row_alloc r2 (.cells #[.string s, .int .i64 (o' : Int), .int .i64 0] 36))
      clear hb1 huint
      go_wp2
      exact bodyPost_ret (v := .tuple #[.agg #[.string s, .int .i64 (o' : Int), .int .i64 0], .int .i64 (n : Int)]) (by simp [results, Try.results23, go_sem, c0, c1, c2]) rfl ⟨rfl, below_set3 (hB.alloc hB.size _) (Nat.le_succ _) _ _ _⟩
    · obtain rfl := he he0
      clear hc he
      go_enter Try.func23, Try.ntmps23
      go_wp2_with fail
      refine (huint _).mono ?_
      rintro e w1 ⟨rfl, hb1⟩
      obtain ⟨hB, hS⟩ := below_call _ _ hb1
      obtain ⟨r1, r2⟩ := row_call _ _ hb1
      obtain ⟨⟨c0, c1, c2⟩, f0, f1, f2⟩ := row3 (row_alloc r2 (.cells #[.string s, .int .i64 (o' : Int), .int .i64 e'] 36))
      clear hb1 huint
      go_wp2
      exact bodyPost_ret (v := .tuple #[.agg #[.string s, .int .i64 (o' : Int), .int .i64 e'], .int .i64 0]) (by simp [results, Try.results23, go_sem, c0, c1, c2]) rfl ⟨rfl, below_set3 (hB.alloc hB.size _) (Nat.le_succ _) _ _ _⟩
theorem rcount_at (s : ByteArray) (o : Nat) (er m : Int) (ho : o ≤ s.size) (hs : s.size ≤ 4096) (hm : m < 9223372036854775808) (w : World) :
    Calls Try.prog 23 #[.agg #[.string s, .int .i64 (o : Int), .int .i64 er], .int .i64 m] w fun r w' => r = .returned (.tuple #[.agg #[.string s, .int .i64 ((countA s o er m).o : Int), .int .i64 (countA s o er m).e], .int .i64 ((countA s o er m).v : Int)]) ∧ Below w.heap.size w w' := by
  have hlt := uintA_lt (er := er) ho
  have hue : (uintA s o er).e ≠ 0 → (uintA s o er).v = 0 := by
    unfold uintA
    by_cases h0 : er = 0
    · rw [if_pos h0]; exact fun h => (tkA_err h).1
    · rw [if_neg h0]; exact fun _ => rfl
  refine (rcount_gen s o er m _ _ _ hlt hm hue (fun W => ruint_at s o er ho hs W) w).mono ?_
  rintro r w' ⟨hr, hb⟩
  refine ⟨?_, hb⟩
  by_cases h0 : er = 0
  · subst h0
    have hA : uintA s o 0 = ⟨(tkA s o).n, o + (tkA s o).sz, (tkA s o).er⟩ := if_pos rfl
    have hC : countA s o 0 m = ⟨(cnt (tkA s o) m).n, o + (cnt (tkA s o) m).sz, (cnt (tkA s o) m).er⟩ := if_pos rfl
    rw [hA] at hr
    rw [hC]
    unfold cnt
    by_cases hc : (tkA s o).er = 0 ∧ (m < 0 ∨ m < ((tkA s o).n : Int))
    · rw [if_pos hc] at hr ⊢
      exact hr
    · rw [if_neg hc] at hr ⊢
      exact hr
  · have hA : uintA s o er = ⟨0, o, er⟩ := if_neg h0
    have hC : countA s o er m = ⟨0, o, er⟩ := if_neg h0
    rw [hA, if_neg (fun h => h0 h.1)] at hr
    rw [hC]
    exact hr
end Go.Proofs.Ytmijbflgfbfbiaa
