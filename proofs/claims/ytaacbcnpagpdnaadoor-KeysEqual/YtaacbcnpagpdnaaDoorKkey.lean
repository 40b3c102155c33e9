/- A value's key, as a list of bytes (keyT); its number's bytes with the highest bit turned. -/
import Derived.Test.YtaacbcnpagpdnaaDoorParts
import Derived.Test.YtaacbcnpagpdnaaDoorKnum
import Derived.Laws.Bits64
namespace Go.Proofs.YtaacbcnpagpdnaaDoor
open Go.RowKit
def escL : List UInt8 → List UInt8
  | [] => []
  | c :: r => c :: (if c = 0 then 255 :: escL r else escL r)
def ktextL (s : ByteArray) : List UInt8 := escL s.data.toList ++ [0, 1]
def turnN (n : Int) : Nat := (n + 9223372036854775808).toNat
def keyT : Tr → List UInt8
  | .no => [0]
  | .mk k b n s m f _ g =>
    UInt8.ofNat k.toNat :: (if k = 1 then [if b then 1 else 0] else if k = 2 then be8 (turnN n) else if k = 3 ∨ k = 4 then ktextL s
      else if k = 5 ∨ k = 6 then cat m (fun i => 1 :: ((if k = 6 then ktextL (g i) else []) ++ keyT (f i))) ++ [0] else [])
theorem turnN_lt {n : Int} (h1 : n < 9223372036854775808) : turnN n < 18446744073709551616 := by unfold turnN; omega
theorem xor63 (m : Nat) (h : m < 18446744073709551616) : m ^^^ 9223372036854775808 = if m < 9223372036854775808 then m + 9223372036854775808 else m - 9223372036854775808 := by
  have low : ∀ a, a < 2 ^ 63 → a ^^^ 2 ^ 63 = 2 ^ 63 + a := by
    intro a ha
    apply Nat.eq_of_testBit_eq
    intro i
    rw [Nat.testBit_xor, Nat.testBit_two_pow]
    rcases Nat.lt_trichotomy i 63 with k | k | k
    · rw [Nat.testBit_two_pow_add_gt k, decide_eq_false (by omega), Bool.xor_false]
    · subst k
      rw [Nat.testBit_two_pow_add_eq]
      simp
    · have hp : 2 ^ 64 ≤ 2 ^ i := Nat.pow_le_pow_right (by omega) k
      rw [Nat.testBit_lt_two_pow (show a < 2 ^ i by omega), Nat.testBit_lt_two_pow (show 2 ^ 63 + a < 2 ^ i by omega), decide_eq_false (by omega)]
      rfl
  split
  · rename_i k
    have := low m (by omega)
    rw [show (2 : Nat) ^ 63 = 9223372036854775808 by decide] at this
    omega
  · rename_i k
    have := low (m - 9223372036854775808) (by omega)
    rw [show (2 : Nat) ^ 63 = 9223372036854775808 by decide] at this
    have e : m = (m - 9223372036854775808) ^^^ 9223372036854775808 := by omega
    rw [e, Nat.xor_assoc, Nat.xor_self, Nat.xor_zero]
    omega
theorem turn_bits {n : Int} (h0 : -9223372036854775808 ≤ n) (h1 : n < 9223372036854775808) : bits BinOp.xor IntKind.u64 (IntKind.u64.wrap n) 9223372036854775808 = (turnN n : Int) := by
  have e : IntKind.u64.wrap n = (((n % 18446744073709551616).toNat : Nat) : Int) := by rw [IntKind.wrap_u64]; omega
  have e2 : (9223372036854775808 : Int) = ((9223372036854775808 : Nat) : Int) := rfl
  rw [e, e2, bits_xor_u64_nat _ _ (by omega) (by omega), xor63 _ (by omega)]
  unfold turnN
  split <;> omega
def KputC (t : Tr) : Prop := ∀ (B : Nat) (w : World) (x : Ad) (b : Nat) (l : List UInt8), Lies B w t x → B ≤ b → Bld w b l → l.length + (keyT t).length ≤ 900000 →
    Calls Tryd.prog 29 #[.pointer (some ⟨b, 0, none⟩), t.val x] w fun e w' => e = .returned (.tuple #[]) ∧ Bld w' b (l ++ keyT t) ∧ Below b w w' ∧ Tame w w'
end Go.Proofs.YtaacbcnpagpdnaaDoor
