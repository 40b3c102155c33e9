/- The number with which bytes begin (first): of any bytes, at most 8192, the call returns what the plain facts take of them, and changes nothing. -/
import Derived.Test.YtaacbcnpagpdnaaDoorKit
import Derived.WalkKit
import Derived.WalkSpells
import Derived.WalkLawsBesides
import Derived.Deep.QuietTactic
import Derived.BigQuiet
import Derived.Laws.BitsAllLaws
namespace Go.Proofs.YtaacbcnpagpdnaaDoor
open Go.RowKit
theorem tk_bad {n i : Nat} {b : UInt8} {r : List UInt8} (h : (0 < i ∧ b.toNat = 0) ∨ (i = 9 ∧ 1 < b.toNat)) : tk n i (b :: r) = ⟨0, 0, 6⟩ := by unfold tk; rw [if_pos h]
theorem tk_end {n i : Nat} {b : UInt8} {r : List UInt8} (h : ¬ ((0 < i ∧ b.toNat = 0) ∨ (i = 9 ∧ 1 < b.toNat))) (h2 : b.toNat < 128) : tk n i (b :: r) = ⟨n + b.toNat % 128 * 128 ^ i, i + 1, 0⟩ := by unfold tk; rw [if_neg h, if_pos h2]
theorem tk_on {n i : Nat} {b : UInt8} {r : List UInt8} (h : ¬ ((0 < i ∧ b.toNat = 0) ∨ (i = 9 ∧ 1 < b.toNat))) (h2 : ¬ b.toNat < 128) : tk n i (b :: r) = tk (n + b.toNat % 128 * 128 ^ i) (i + 1) r := by rw [tk, if_neg h, if_neg h2]
theorem drop_at (s : ByteArray) (i : Nat) (h : i < s.size) : s.data.toList.drop i = s[i] :: s.data.toList.drop (i + 1) := by
  have hl : i < s.data.toList.length := by simpa using h
  rw [List.drop_eq_getElem_cons hl]; rfl
theorem pow128 (i : Nat) : (2 : Nat) ^ (i * 7) = 128 ^ i := by
  rw [Nat.mul_comm, Nat.pow_mul]
theorem or_val {n i b : Nat} (hi : i ≤ 9) (hn : n < 128 ^ i) (hb : i = 9 → b ≤ 1) : bits BinOp.or IntKind.u64 (n : Int) (IntKind.u64.wrap ((b : Int) % 128 * 2 ^ (i * 7))) = ((n + b % 128 * 128 ^ i : Nat) : Int) := by
  have h64 := step_lt64 hi hn hb
  have e : ((b : Int) % 128 * 2 ^ (i * 7)) = ((b % 128 * 128 ^ i : Nat) : Int) := by
    rw [← pow128]; push_cast; rfl
  rw [e, IntKind.wrap_u64, Int.emod_eq_of_lt (by omega) (by omega), u64_or_nat _ _ (by omega) (by omega)]
  congr 1
  rw [← pow128] at hn ⊢
  rw [Nat.mul_comm (b % 128), Nat.add_comm n, Nat.two_pow_add_eq_or_of_lt hn, Nat.or_comm]
theorem or_val9 {n b : Nat} (hn : n < 128 ^ 9) (hb : b ≤ 1) : bits BinOp.or IntKind.u64 (n : Int) ((b : Int) % 128 * 9223372036854775808) = ((n + b % 128 * 128 ^ 9 : Nat) : Int) := by
  have h := or_val (i := 9) (b := b) (by omega) hn (fun _ => hb)
  rw [← h]
  congr 1
  rw [IntKind.wrap_u64]
  have e : (2 : Int) ^ (9 * 7) = 9223372036854775808 := by decide
  rw [e]
  omega
theorem or_val0 {n b : Nat} (hn : n < 128 ^ 0) : bits BinOp.or IntKind.u64 (n : Int) ((b : Int) % 128) = ((n + b % 128 * 128 ^ 0 : Nat) : Int) := by
  have h := or_val (i := 0) (b := b) (by omega) hn (by omega)
  rw [← h]
  congr 1
  rw [IntKind.wrap_u64]
  simp only [Nat.zero_mul, Int.pow_zero, Int.mul_one]
  omega
end Go.Proofs.YtaacbcnpagpdnaaDoor
