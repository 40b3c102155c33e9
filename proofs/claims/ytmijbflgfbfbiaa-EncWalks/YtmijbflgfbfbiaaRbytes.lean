/- The document's cursor takes bytes (Bytes), and ends (End): what it answers in plain words; nothing that was there has changed. -/
import Derived.Test.YtmijbflgfbfbiaaRtake
import Derived.WalkKit
import Derived.WalkSpells
import Derived.WalkLawsBesides
import Derived.Deep.QuietTactic
import Derived.BigQuiet
import Derived.Deep.RegionWith
import Derived.Deep.RegionHeld3
import Derived.Lib.Strings
namespace Go.Proofs.Ytmijbflgfbfbiaa
open Go.RowKit
set_option maxHeartbeats 1000000 in
theorem rbytes_err (s : ByteArray) (o er n : Int) (h0 : er ≠ 0) (w : World) :
    Calls Try.prog 30 #[.agg #[.string s, .int .i64 o, .int .i64 er], .int .i64 n] w fun r w' => r = .returned (.tuple #[.agg #[.string s, .int .i64 o, .int .i64 er], .string ⟨#[]⟩]) ∧ Below w.heap.size w w' := by
  go_enter Try.func30, Try.ntmps30
  go_wp2
  exact bodyPost_ret (v := .tuple #[.agg #[.string s, .int .i64 o, .int .i64 er], .string ⟨#[]⟩]) (by simp [results, Try.results30, go_sem]) rfl ⟨rfl, below_two _ _ _⟩
set_option maxHeartbeats 1000000 in
theorem rbytes_bad (s : ByteArray) (o n : Int) (hn : n < 0) (w : World) :
    Calls Try.prog 30 #[.agg #[.string s, .int .i64 o, .int .i64 0], .int .i64 n] w fun r w' => r = .returned (.tuple #[.agg #[.string s, .int .i64 o, .int .i64 1], .string ⟨#[]⟩]) ∧ Below w.heap.size w w' := by
  go_enter Try.func30, Try.ntmps30
  go_wp2_with fail
  refine (with_any _ _ _ _ _).mono ?_
  rintro e w1 ⟨rfl, hb1⟩
  obtain ⟨hB, hS⟩ := below_call _ _ hb1
  obtain ⟨r1, r2⟩ := row_call _ _ hb1
  obtain ⟨⟨c0, c1, c2⟩, f0, f1, f2⟩ := row3 r2
  go_wp2
  exact bodyPost_ret (v := .tuple #[.agg #[.string s, .int .i64 o, .int .i64 1], .string ⟨#[]⟩]) (by simp [results, Try.results30, go_sem, c0, c1, c2]) rfl ⟨rfl, below_set3 hB (Nat.le_succ _) _ _ _⟩
set_option maxHeartbeats 1000000 in
theorem rbytes_short (s : ByteArray) (o : Nat) (n : Int) (ho : o ≤ s.size) (hs : s.size ≤ 4096) (hn0 : ¬ n < 0) (hn : (s.size : Int) - (o : Int) < n) (w : World) :
    Calls Try.prog 30 #[.agg #[.string s, .int .i64 (o : Int), .int .i64 0], .int .i64 n] w fun r w' => r = .returned (.tuple #[.agg #[.string s, .int .i64 (o : Int), .int .i64 4], .string ⟨#[]⟩]) ∧ Below w.heap.size w w' := by
  have hw : IntKind.i64.wrap ((s.size : Int) - (o : Int)) = (s.size : Int) - (o : Int) := by rw [IntKind.wrap_i64]; omega
  go_enter Try.func30, Try.ntmps30
  go_wp2_with fail
  refine (with_any _ _ _ _ _).mono ?_
  rintro e w1 ⟨rfl, hb1⟩
  obtain ⟨hB, hS⟩ := below_call _ _ hb1
  obtain ⟨r1, r2⟩ := row_call _ _ hb1
  obtain ⟨⟨c0, c1, c2⟩, f0, f1, f2⟩ := row3 r2
  go_wp2
  exact bodyPost_ret (v := .tuple #[.agg #[.string s, .int .i64 (o : Int), .int .i64 4], .string ⟨#[]⟩]) (by simp [results, Try.results30, go_sem, c0, c1, c2]) rfl ⟨rfl, below_set3 hB (Nat.le_succ _) _ _ _⟩
set_option maxHeartbeats 1000000 in
theorem rbytes_ok (s : ByteArray) (o n : Nat) (hs : s.size ≤ 4096) (hn : o + n ≤ s.size) (w : World) :
    Calls Try.prog 30 #[.agg #[.string s, .int .i64 (o : Int), .int .i64 0], .int .i64 (n : Int)] w fun r w' => r = .returned (.tuple #[.agg #[.string s, .int .i64 ((o + n : Nat) : Int), .int .i64 0], .string (s.extract o (o + n))]) ∧ Below w.heap.size w w' := by
  have hw : IntKind.i64.wrap ((s.size : Int) - (o : Int)) = (s.size : Int) - (o : Int) := by rw [IntKind.wrap_i64]; omega
  have hw2 : IntKind.i64.wrap ((o : Int) + (n : Int)) = (o : Int) + (n : Int) := by rw [IntKind.wrap_i64]; omega
  have h0 : ¬ (n : Int) < 0 := by omega
  have h1 : ¬ (s.size : Int) - (o : Int) < (n : Int) := by omega
  have h2 : (0 : Int) ≤ (o : Int) := by omega
  have h3 : (o : Int) ≤ (o : Int) + (n : Int) := by omega
  have h4 : (o : Int) + (n : Int) ≤ (s.size : Int) := by omega
  go_enter Try.func30, Try.ntmps30
  go_wp2_with fail
  go_region
  go_wp2
  exact bodyPost_ret (v := .tuple #[.agg #[.string s, .int .i64 ((o : Int) + (n : Int)), .int .i64 0], .string (s.extract o (o + n))]) (by simp [results, Try.results30, go_sem]) rfl ⟨by simp, (below_two _ _ _).drew⟩
theorem rbytes_at (s : ByteArray) (o : Nat) (er n : Int) (ho : o ≤ s.size) (hs : s.size ≤ 4096) (w : World) :
    Calls Try.prog 30 #[.agg #[.string s, .int .i64 (o : Int), .int .i64 er], .int .i64 n] w fun r w' => r = .returned (.tuple #[.agg #[.string s, .int .i64 ((bytesA s o er n).o : Int), .int .i64 (bytesA s o er n).e], .string (bytesA s o er n).v]) ∧ Below w.heap.size w w' := by
  by_cases h0 : er = 0
  · subst h0
    by_cases h1 : n < 0
    · have hA : bytesA s o 0 n = ⟨⟨#[]⟩, o, 1⟩ := by unfold bytesA; rw [if_pos rfl, if_pos h1]
      rw [hA]
      exact rbytes_bad s o n h1 w
    · by_cases h2 : (s.size : Int) - (o : Int) < n
      · have hA : bytesA s o 0 n = ⟨⟨#[]⟩, o, 4⟩ := by unfold bytesA; rw [if_pos rfl, if_neg h1, if_pos h2]
        rw [hA]
        exact rbytes_short s o n ho hs h1 h2 w
      · have hA : bytesA s o 0 n = ⟨s.extract o (o + n.toNat), o + n.toNat, 0⟩ := by unfold bytesA; rw [if_pos rfl, if_neg h1, if_neg h2]
        rw [hA]
        have := rbytes_ok s o n.toNat hs (by omega) w
        rw [Int.toNat_of_nonneg (by omega : 0 ≤ n)] at this
        exact this
  · have hA : bytesA s o er n = ⟨⟨#[]⟩, o, er⟩ := if_neg h0
    rw [hA]
    exact rbytes_err s o er n h0 w
set_option maxHeartbeats 1000000 in
theorem rend_at (s : ByteArray) (o : Nat) (er : Int) (w : World) :
    Calls Try.prog 32 #[.agg #[.string s, .int .i64 (o : Int), .int .i64 er]] w fun r w' => r = .returned (.agg #[.string s, .int .i64 (o : Int), .int .i64 (if er = 0 ∧ o < s.size then 5 else er)]) ∧ Below w.heap.size w w' := by
  by_cases h0 : er = 0
  · subst h0
    by_cases h1 : o < s.size
    · have h1' : (o : Int) < (s.size : Int) := by omega
      rw [if_pos ⟨rfl, h1⟩]
      go_enter Try.func32, Try.ntmps32
      go_wp2_with fail
      refine (with_any _ _ _ _ _).mono ?_
      rintro e w1 ⟨rfl, hb1⟩
      obtain ⟨hB, hS⟩ := below_call _ _ hb1
      obtain ⟨r1, r2⟩ := row_call _ _ hb1
      obtain ⟨⟨c0, c1, c2⟩, f0, f1, f2⟩ := row3 r2
      go_wp2
      exact bodyPost_ret (v := .agg #[.string s, .int .i64 (o : Int), .int .i64 5]) (by simp [results, Try.results32, go_sem, c0, c1, c2]) rfl ⟨rfl, below_set3 hB (Nat.le_succ _) _ _ _⟩
    · have h1' : ¬ (o : Int) < (s.size : Int) := by omega
      rw [if_neg (fun h => h1 h.2)]
      go_enter Try.func32, Try.ntmps32
      go_wp2
      exact bodyPost_ret (v := .agg #[.string s, .int .i64 (o : Int), .int .i64 0]) (by simp [results, Try.results32, go_sem]) rfl ⟨rfl, below_two _ _ _⟩
  · rw [if_neg (fun h => h0 h.1)]
    go_enter Try.func32, Try.ntmps32
    go_wp2
    exact bodyPost_ret (v := .agg #[.string s, .int .i64 (o : Int), .int .i64 er]) (by simp [results, Try.results32, go_sem]) rfl ⟨rfl, below_two _ _ _⟩
end Go.Proofs.Ytmijbflgfbfbiaa
