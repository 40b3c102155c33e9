/- The law EncSigned, called: of any two numbers the call returns true, and nothing that was there has changed. -/
import Derived.Test.YtmijbflgfbfbiaaNone
import Derived.WalkKit
import Derived.WalkSpells
import Derived.WalkLawsBesides
import Derived.Deep.QuietTactic
import Derived.BigQuiet
import Derived.Lib.Strings
namespace Go.Proofs.Ytmijbflgfbfbiaa
open Go.RowKit
theorem int_put {w : World} {b : Nat} (n : Int) (h0 : -9223372036854775808 ≤ n) (h1 : n < 9223372036854775808) (hcu : Cur w b ⟨(put (zig n)).toArray⟩ ((0 : Nat) : Int) 0) :
    Calls Try.prog 17 #[.pointer (some ⟨b, 0, none⟩)] w fun e w' => e = .returned (.int .i64 n) ∧ Cur w' b ⟨(put (zig n)).toArray⟩ (((put (zig n)).length : Nat) : Int) 0 ∧ Only b w w' := by
  have hn := zig_lt h0 h1
  have h10 := put_len10 hn
  have hz : (⟨(put (zig n)).toArray⟩ : ByteArray).size = (put (zig n)).length := by show (put (zig n)).toArray.size = _; simp
  have := int_at hcu (by omega) (by rw [hz]; omega)
  rw [uintA_put (zig n) hn] at this
  have e : zag (Ans.mk (zig n) (put (zig n)).length 0).v = n := zag_zig n
  rw [e] at this
  exact this
theorem puts_eq {n m : Int} (h0 : -9223372036854775808 ≤ n) (h1 : n < 9223372036854775808) (h2 : -9223372036854775808 ≤ m) (h3 : m < 9223372036854775808) :
    ((⟨(put (zig n)).toArray⟩ : ByteArray).toList == (⟨(put (zig m)).toArray⟩ : ByteArray).toList) = (n == m) := by
  rw [Lib.toList_data, Lib.toList_data]
  show (put (zig n) == put (zig m)) = (n == m)
  by_cases h : n = m
  · subst h; simp
  · have hne : put (zig n) ≠ put (zig m) := fun e => h (zig_inj (put_inj (zig_lt h0 h1) (zig_lt h2 h3) e))
    rw [beq_eq_false_iff_ne.mpr hne, beq_eq_false_iff_ne.mpr h]
set_option maxHeartbeats 1000000 in
theorem law_signed (n m : Int) (h0 : -9223372036854775808 ≤ n) (h1 : n < 9223372036854775808) (h2 : -9223372036854775808 ≤ m) (h3 : m < 9223372036854775808) (w : World) :
    Calls Try.prog 4 #[.int .i64 n, .int .i64 m] w fun e w' => e = .returned (.bool true) ∧ Below w.heap.size w w' := by
  have hup := fun (W : World) (b : Nat) => int_put (w := W) (b := b) n h0 h1
  have hen := fun (W : World) (b : Nat) => end_put (w := W) (b := b) (zig n)
  have hpu := fun (W : World) => eint_any n h0 h1 W
  have hpm := fun (W : World) => eint_any m h2 h3 W
  have hrp := fun (W : World) => rint_any n h0 h1 W
  have heq := puts_eq h0 h1 h2 h3
  obtain ⟨x, hx⟩ : ∃ x : ByteArray, (⟨(put (zig n)).toArray⟩ : ByteArray) = x := ⟨_, rfl⟩
  obtain ⟨y, hy⟩ : ∃ y : ByteArray, (⟨(put (zig m)).toArray⟩ : ByteArray) = y := ⟨_, rfl⟩
  obtain ⟨L, hL⟩ : ∃ L : Int, (((put (zig n)).length : Nat) : Int) = L := ⟨_, rfl⟩
  rw [hx] at hup hen hpu hrp heq
  rw [hy] at hpm heq
  rw [hL] at hup hen
  clear hx hL hy
  go_enter Try.func4, Try.ntmps4
  go_wp2_with fail
  refine (hpu _).mono ?_
  rintro e w1 ⟨rfl, hb1⟩
  go_wp2_with fail
  refine (at_any _ _).mono ?_
  rintro e w2 ⟨rfl, rfl⟩
  have hc2 := cur_new w1 x
  go_wp2_with fail
  refine (awake_any _).mono ?_
  rintro e w3 ⟨rfl, hb3⟩
  go_wp2_with fail
  refine (hpu _).mono ?_
  rintro e w4 ⟨rfl, hb4⟩
  go_wp2_with fail
  refine (hrp _).mono ?_
  rintro e w5 ⟨rfl, hb5⟩
  have hc5 := ((hc2.later hb3).later hb4).later hb5
  go_wp2_with fail
  refine (hup _ _ hc5).mono ?_
  rintro e w6 ⟨rfl, hk6, ho6⟩
  go_wp2_with fail
  refine (hen _ _ hk6).mono ?_
  rintro e w7 ⟨rfl, ho7⟩
  go_wp2_with fail
  refine (hpu _).mono ?_
  rintro e w8 ⟨rfl, hb8⟩
  go_wp2_with fail
  refine (hpm _).mono ?_
  rintro e w9 ⟨rfl, hb9⟩
  go_wp2
  go_ret
  have hfin : Below w.heap.size w w9 := by
    have g1 := hb1.alloc hb1.size (.cells #[.string x, .int .i64 0, .int .i64 0] 61)
    have g2 := g1.trans (hb3.mono g1.size)
    have g3 := g2.trans (hb4.mono g2.size)
    have g4 := g3.trans (hb5.mono g3.size)
    have g5 := g4.trans ((ho6.trans ho7).below hb1.size g4.size)
    have g6 := g5.trans (hb8.mono g5.size)
    exact g6.trans (hb9.mono g6.size)
  exact ⟨by simp, hfin⟩
end Go.Proofs.Ytmijbflgfbfbiaa
