/- The laws EncNone, EncNumbers and EncSigned, called: of any arguments each call returns true, and nothing that was there has changed. -/
import Derived.Test.YtmijbflgfbfbiaaAwake
import Derived.WalkKit
import Derived.WalkSpells
import Derived.WalkLawsBesides
import Derived.Deep.QuietTactic
import Derived.BigQuiet
import Derived.Lib.Strings
namespace Go.Proofs.Ytmijbflgfbfbiaa
open Go.RowKit
set_option maxHeartbeats 1000000 in
theorem law_none (n : Int) (w : World) : Calls Try.prog 8 #[.int .i64 n] w fun e w' => e = .returned (.bool true) ∧ Below w.heap.size w w' := by
  go_enter Try.func8, Try.ntmps8
  go_wp2_with fail
  refine (fail_nil _ _).mono ?_
  rintro e w1 ⟨rfl, rfl⟩
  go_wp2_with fail
  refine (awake_any _).mono ?_
  rintro e w2 ⟨rfl, hb2⟩
  go_wp2_with fail
  refine (uint_nil _).mono ?_
  rintro e w3 ⟨rfl, rfl⟩
  go_wp2_with fail
  refine (int_nil _).mono ?_
  rintro e w3 ⟨rfl, rfl⟩
  go_wp2_with fail
  refine (cou_nil _ _).mono ?_
  rintro e w3 ⟨rfl, rfl⟩
  go_wp2_with fail
  refine (bytes_nil _ _).mono ?_
  rintro e w3 ⟨rfl, rfl⟩
  go_wp2_with fail
  refine (text_nil _ _).mono ?_
  rintro e w3 ⟨rfl, rfl⟩
  go_wp2_with fail
  refine (bool_nil _).mono ?_
  rintro e w3 ⟨rfl, rfl⟩
  go_wp2_with fail
  refine (err_nil _).mono ?_
  rintro e w3 ⟨rfl, rfl⟩
  go_wp2_with fail
  refine (off_nil _).mono ?_
  rintro e w3 ⟨rfl, rfl⟩
  go_wp2_with fail
  refine (end_nil _).mono ?_
  rintro e w4 ⟨rfl, k, rfl⟩
  go_wp2
  go_ret
  exact ⟨rfl, below_drewN hb2 k⟩
set_option maxHeartbeats 1000000 in
theorem law_numbers (n : Nat) (hn : n < 18446744073709551616) (w : World) : Calls Try.prog 3 #[.int .u64 (n : Int)] w fun e w' => e = .returned (.bool true) ∧ Below w.heap.size w w' := by
  have hup := fun (W : World) (b : Nat) => uint_put (w := W) (b := b) n hn
  have hen := fun (W : World) (b : Nat) => end_put (w := W) (b := b) n
  have hpu := fun (W : World) => put_any n hn W
  have hrp := fun (W : World) => rput_any n hn W
  obtain ⟨x, hx⟩ : ∃ x : ByteArray, (⟨(put n).toArray⟩ : ByteArray) = x := ⟨_, rfl⟩
  obtain ⟨L, hL⟩ : ∃ L : Int, (((put n).length : Nat) : Int) = L := ⟨_, rfl⟩
  rw [hx] at hup hen hpu hrp
  rw [hL] at hup hen
  clear hx hL
  go_enter Try.func3, Try.ntmps3
  go_wp2_with fail
  refine (hpu _).mono ?_
  rintro e w1 ⟨rfl, hb1⟩
  go_wp2_with fail
  refine (at_any _ _).mono ?_
  rintro e w2 ⟨rfl, rfl⟩
  have hc2 := cur_new w1 x
  go_wp2_with fail
  refine (awake_any _).mono ?_
  rintro e w3 ⟨rfl, hb3⟩
  go_wp2_with fail
  refine (hpu _).mono ?_
  rintro e w4 ⟨rfl, hb4⟩
  go_wp2_with fail
  refine (hrp _).mono ?_
  rintro e w5 ⟨rfl, hb5⟩
  have hc5 := ((hc2.later hb3).later hb4).later hb5
  go_wp2_with fail
  refine (hup _ _ hc5).mono ?_
  rintro e w6 ⟨rfl, hk6, ho6⟩
  go_wp2_with fail
  refine (hen _ _ hk6).mono ?_
  rintro e w7 ⟨rfl, ho7⟩
  go_wp2
  go_ret
  refine ⟨rfl, ?_⟩
  have h1 := hb1.alloc hb1.size (.cells #[.string x, .int .i64 0, .int .i64 0] 61)
  have h2 := h1.trans (hb3.mono h1.size)
  have h3 := h2.trans (hb4.mono h2.size)
  have h4 := h3.trans (hb5.mono h3.size)
  exact h4.trans ((ho6.trans ho7).below hb1.size h4.size)
def zig (n : Int) : Nat := if n < 0 then (2 * (-(n + 1)) + 1).toNat else (2 * n).toNat
theorem zig_lt {n : Int} (h0 : -9223372036854775808 ≤ n) (h1 : n < 9223372036854775808) : zig n < 18446744073709551616 := by
  unfold zig; split <;> omega
theorem zag_zig (n : Int) : zag (zig n) = n := by
  unfold zag zig; split <;> split <;> omega
theorem zig_inj {n m : Int} (h : zig n = zig m) : n = m := by
  rw [← zag_zig n, h, zag_zig]
set_option maxHeartbeats 1000000 in
theorem eint_any (n : Int) (h0 : -9223372036854775808 ≤ n) (h1 : n < 9223372036854775808) (w : World) :
    Calls Try.prog 15 #[.int .i64 n] w fun e w' => e = .returned (.string ⟨(put (zig n)).toArray⟩) ∧ Below w.heap.size w w' := by
  have hpu := fun (W : World) => put_any (zig n) (zig_lt h0 h1) W
  obtain ⟨x, hx⟩ : ∃ x : ByteArray, (⟨(put (zig n)).toArray⟩ : ByteArray) = x := ⟨_, rfl⟩
  rw [hx] at hpu ⊢
  clear hx
  by_cases h : n < 0
  · have hz : (zig n : Int) = 2 * (-(n + 1)) + 1 := by unfold zig; rw [if_pos h]; omega
    rw [hz] at hpu
    clear hz
    have e1 : IntKind.i64.wrap (n + 1) = n + 1 := by rw [IntKind.wrap_i64]; omega
    have e2 : IntKind.i64.wrap (-(n + 1)) = -(n + 1) := by rw [IntKind.wrap_i64]; omega
    have e3 : IntKind.u64.wrap (-(n + 1)) = -(n + 1) := by rw [IntKind.wrap_u64]; omega
    have e4 : IntKind.u64.wrap (2 * (-(n + 1))) = 2 * (-(n + 1)) := by rw [IntKind.wrap_u64]; omega
    have e5 : IntKind.u64.wrap (2 * (-(n + 1)) + 1) = 2 * (-(n + 1)) + 1 := by rw [IntKind.wrap_u64]; omega
    go_enter Try.func15, Try.ntmps15
    go_wp2_with fail
    refine (hpu _).mono ?_
    rintro e w1 ⟨rfl, hb1⟩
    go_wp2
    go_ret
    exact ⟨rfl, hb1⟩
  · have hz : (zig n : Int) = 2 * n := by unfold zig; rw [if_neg h]; omega
    rw [hz] at hpu
    clear hz
    have e3 : IntKind.u64.wrap n = n := by rw [IntKind.wrap_u64]; omega
    have e4 : IntKind.u64.wrap (2 * n) = 2 * n := by rw [IntKind.wrap_u64]; omega
    go_enter Try.func15, Try.ntmps15
    go_wp2_with fail
    refine (hpu _).mono ?_
    rintro e w1 ⟨rfl, hb1⟩
    go_wp2
    go_ret
    exact ⟨rfl, hb1⟩
set_option maxHeartbeats 1000000 in
theorem rint_any (n : Int) (h0 : -9223372036854775808 ≤ n) (h1 : n < 9223372036854775808) (w : World) :
    Calls Try.prog 16 #[.int .i64 n] w fun e w' => e = .returned (.string ⟨(put (zig n)).toArray⟩) ∧ Below w.heap.size w w' := by
  have hpu := fun (W : World) => rput_any (zig n) (zig_lt h0 h1) W
  obtain ⟨x, hx⟩ : ∃ x : ByteArray, (⟨(put (zig n)).toArray⟩ : ByteArray) = x := ⟨_, rfl⟩
  rw [hx] at hpu ⊢
  clear hx
  by_cases h : n < 0
  · have hz : (zig n : Int) = -(n + 1) * 2 + 1 := by unfold zig; rw [if_pos h]; omega
    rw [hz] at hpu
    clear hz
    have e1 : IntKind.i64.wrap (n + 1) = n + 1 := by rw [IntKind.wrap_i64]; omega
    have e2 : IntKind.i64.wrap (-(n + 1)) = -(n + 1) := by rw [IntKind.wrap_i64]; omega
    have e3 : IntKind.u64.wrap (-(n + 1)) = -(n + 1) := by rw [IntKind.wrap_u64]; omega
    have e4 : IntKind.u64.wrap (-(n + 1) * 2) = -(n + 1) * 2 := by rw [IntKind.wrap_u64]; omega
    have e5 : IntKind.u64.wrap (-(n + 1) * 2 + 1) = -(n + 1) * 2 + 1 := by rw [IntKind.wrap_u64]; omega
    go_enter Try.func16, Try.ntmps16
    go_wp2_with fail
    refine (hpu _).mono ?_
    rintro e w1 ⟨rfl, hb1⟩
    go_wp2
    go_ret
    exact ⟨rfl, hb1⟩
  · have hz : (zig n : Int) = n * 2 := by unfold zig; rw [if_neg h]; omega
    rw [hz] at hpu
    clear hz
    have e3 : IntKind.u64.wrap n = n := by rw [IntKind.wrap_u64]; omega
    have e4 : IntKind.u64.wrap (n * 2) = n * 2 := by rw [IntKind.wrap_u64]; omega
    go_enter Try.func16, Try.ntmps16
    go_wp2_with fail
    refine (hpu _).mono ?_
    rintro e w1 ⟨rfl, hb1⟩
    go_wp2
    go_ret
    exact ⟨rfl, hb1⟩
end Go.Proofs.Ytmijbflgfbfbiaa
