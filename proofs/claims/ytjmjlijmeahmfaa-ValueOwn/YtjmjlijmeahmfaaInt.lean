/- The numbers that may be below 0, in bytes (enc.Int and the document's). -/
import Derived.Test.YtjmjlijmeahmfaaRput
import Derived.Test.YtjmjlijmeahmfaaBoo
import Derived.WalkKit
import Derived.WalkSpells
import Derived.WalkLawsBesides
import Derived.Deep.QuietTactic
import Derived.BigQuiet
import Derived.Lib.Strings
namespace Go.Proofs.Ytjmjlijmeahmfaa
open Go.RowKit
def zig (n : Int) : Nat := if n < 0 then (2 * (-(n + 1)) + 1).toNat else (2 * n).toNat
theorem zig_lt {n : Int} (h0 : -9223372036854775808 ≤ n) (h1 : n < 9223372036854775808) : zig n < 18446744073709551616 := by
  unfold zig; split <;> omega
theorem zag_zig (n : Int) : zag (zig n) = n := by
  unfold zag zig; split <;> split <;> omega
theorem zig_inj {n m : Int} (h : zig n = zig m) : n = m := by
  rw [← zag_zig n, h, zag_zig]
set_option maxHeartbeats 1000000 in
theorem eint_any (n : Int) (h0 : -9223372036854775808 ≤ n) (h1 : n < 9223372036854775808) (w : World) :
    Calls Try.prog 68 #[.int .i64 n] w fun e w' => e = .returned (.string ⟨(put (zig n)).toArray⟩) ∧ Below w.heap.size w w' := by
  have hpu := fun (W : World) => put_any (zig n) (zig_lt h0 h1) W
  obtain ⟨x, hx⟩ : ∃ x : ByteArray, (⟨(put (zig n)).toArray⟩ : ByteArray) = x := ⟨_, rfl⟩
  rw [hx] at hpu ⊢
  clear hx
  by_cases h : n < 0
  · have hz : (zig n : Int) = 2 * (-(n + 1)) + 1 := by unfold zig; rw [if_pos h]; omega
    rw [hz] at hpu
    clear hz
    have e1 : IntKind.i64.wrap (n + 1) = n + 1 := by rw [IntKind.wrap_i64]; omega
    have e2 : IntKind.i64.wrap (-(n + 1)) = -(n + 1) := by rw [IntKind.wrap_i64]; omega
    have e3 : IntKind.u64.wrap (-(n + 1)) = -(n + 1) := by rw [IntKind.wrap_u64]; omega
    have e4 : IntKind.u64.wrap (2 * (-(n + 1))) = 2 * (-(n + 1)) := by rw [IntKind.wrap_u64]; omega
    have e5 : IntKind.u64.wrap (2 * (-(n + 1)) + 1) = 2 * (-(n + 1)) + 1 := by rw [IntKind.wrap_u64]; omega
    go_enter Try.func68, Try.ntmps68
    go_wp2_with fail
    refine (hpu _).mono ?_
    rintro e w1 ⟨rfl, hb1⟩
    go_wp2
    go_ret
    exact ⟨rfl, hb1⟩
  · have hz : (zig n : Int) = 2 * n := by unfold zig; rw [if_neg h]; omega
    rw [hz] at hpu
    clear hz
    have e3 : IntKind.u64.wrap n = n := by rw [IntKind.wrap_u64]; omega
    have e4 : IntKind.u64.wrap (2 * n) = 2 * n := by rw [IntKind.wrap_u64]; omega
    go_enter Try.func68, Try.ntmps68
    go_wp2_with fail
    refine (hpu _).mono ?_
    rintro e w1 ⟨rfl, hb1⟩
    go_wp2
    go_ret
    exact ⟨rfl, hb1⟩
set_option maxHeartbeats 1000000 in
theorem rint_any (n : Int) (h0 : -9223372036854775808 ≤ n) (h1 : n < 9223372036854775808) (w : World) :
    Calls Try.prog 45 #[.int .i64 n] w fun e w' => e = .returned (.string ⟨(put (zig n)).toArray⟩) ∧ Below w.heap.size w w' := by
  have hpu := fun (W : World) => rput_any (zig n) (zig_lt h0 h1) W
  obtain ⟨x, hx⟩ : ∃ x : ByteArray, (⟨(put (zig n)).toArray⟩ : ByteArray) = x := ⟨_, rfl⟩
  rw [hx] at hpu ⊢
  clear hx
  by_cases h : n < 0
  · have hz : (zig n : Int) = -(n + 1) * 2 + 1 := by unfold zig; rw [if_pos h]; omega
    rw [hz] at hpu
    clear hz
    have e1 : IntKind.i64.wrap (n + 1) = n + 1 := by rw [IntKind.wrap_i64]; omega
    have e2 : IntKind.i64.wrap (-(n + 1)) = -(n + 1) := by rw [IntKind.wrap_i64]; omega
    have e3 : IntKind.u64.wrap (-(n + 1)) = -(n + 1) := by rw [IntKind.wrap_u64]; omega
    have e4 : IntKind.u64.wrap (-(n + 1) * 2) = -(n + 1) * 2 := by rw [IntKind.wrap_u64]; omega
    have e5 : IntKind.u64.wrap (-(n + 1) * 2 + 1) = -(n + 1) * 2 + 1 := by rw [IntKind.wrap_u64]; omega
    go_enter Try.func45, Try.ntmps45
    go_wp2_with fail
    refine (hpu _).mono ?_
    rintro e w1 ⟨rfl, hb1⟩
    go_wp2
    go_ret
    exact ⟨rfl, hb1⟩
  · have hz : (zig n : Int) = n * 2 := by unfold zig; rw [if_neg h]; omega
    rw [hz] at hpu
    clear hz
    have e3 : IntKind.u64.wrap n = n := by rw [IntKind.wrap_u64]; omega
    have e4 : IntKind.u64.wrap (n * 2) = n * 2 := by rw [IntKind.wrap_u64]; omega
    go_enter Try.func45, Try.ntmps45
    go_wp2_with fail
    refine (hpu _).mono ?_
    rintro e w1 ⟨rfl, hb1⟩
    go_wp2
    go_ret
    exact ⟨rfl, hb1⟩
end Go.Proofs.Ytjmjlijmeahmfaa
