/- The number with which bytes begin (first): of any bytes, at most 8192, the call returns what the plain facts take of them, and changes nothing. -/
import Derived.Test.YtjmjlijmeahmfaaKit
import Derived.WalkKit
import Derived.WalkSpells
import Derived.WalkLawsBesides
import Derived.Deep.QuietTactic
import Derived.BigQuiet
import Derived.Laws.BitsAllLaws
namespace Go.Proofs.Ytjmjlijmeahmfaa
open Go.RowKit
theorem tk_bad {n i : Nat} {b : UInt8} {r : List UInt8} (h : (0 < i ∧ b.toNat = 0) ∨ (i = 9 ∧ 1 < b.toNat)) : tk n i (b :: r) = ⟨0, 0, 6⟩ := by unfold tk; rw [if_pos h]
theorem tk_end {n i : Nat} {b : UInt8} {r : List UInt8} (h : ¬ ((0 < i ∧ b.toNat = 0) ∨ (i = 9 ∧ 1 < b.toNat))) (h2 : b.toNat < 128) : tk n i (b :: r) = ⟨n + b.toNat % 128 * 128 ^ i, i + 1, 0⟩ := by unfold tk; rw [if_neg h, if_pos h2]
theorem tk_on {n i : Nat} {b : UInt8} {r : List UInt8} (h : ¬ ((0 < i ∧ b.toNat = 0) ∨ (i = 9 ∧ 1 < b.toNat))) (h2 : ¬ b.toNat < 128) : tk n i (b :: r) = tk (n + b.toNat % 128 * 128 ^ i) (i + 1) r := by rw [tk, if_neg h, if_neg h2]
theorem drop_at (s : ByteArray) (i : Nat) (h : i < s.size) : s.data.toList.drop i = s[i] :: s.data.toList.drop (i + 1) := by
  have hl : i < s.data.toList.length := by simpa using h
  rw [List.drop_eq_getElem_cons hl]; rfl
theorem pow128 (i : Nat) : (2 : Nat) ^ (i * 7) = 128 ^ i := by
  rw [Nat.mul_comm, Nat.pow_mul]
theorem or_val {n i b : Nat} (hi : i ≤ 9) (hn : n < 128 ^ i) (hb : i = 9 → b ≤ 1) : bits BinOp.or IntKind.u64 (n : Int) (IntKind.u64.wrap ((b : Int) % 128 * 2 ^ (i * 7))) = ((n + b % 128 * 128 ^ i : Nat) : Int) := by
  have h64 := step_lt64 hi hn hb
  have e : ((b : Int) % 128 * 2 ^ (i * 7)) = ((b % 128 * 128 ^ i : Nat) : Int) := by
    rw [← pow128]; push_cast; rfl
  rw [e, IntKind.wrap_u64, Int.emod_eq_of_lt (by omega) (by omega), u64_or_nat _ _ (by omega) (by omega)]
  congr 1
  rw [← pow128] at hn ⊢
  rw [Nat.mul_comm (b % 128), Nat.add_comm n, Nat.two_pow_add_eq_or_of_lt hn, Nat.or_comm]
theorem or_val9 {n b : Nat} (hn : n < 128 ^ 9) (hb : b ≤ 1) : bits BinOp.or IntKind.u64 (n : Int) ((b : Int) % 128 * 9223372036854775808) = ((n + b % 128 * 128 ^ 9 : Nat) : Int) := by
  have h := or_val (i := 9) (b := b) (by omega) hn (fun _ => hb)
  rw [← h]
  congr 1
  rw [IntKind.wrap_u64]
  have e : (2 : Int) ^ (9 * 7) = 9223372036854775808 := by decide
  rw [e]
  omega
theorem or_val0 {n b : Nat} (hn : n < 128 ^ 0) : bits BinOp.or IntKind.u64 (n : Int) ((b : Int) % 128) = ((n + b % 128 * 128 ^ 0 : Nat) : Int) := by
  have h := or_val (i := 0) (b := b) (by omega) hn (by omega)
  rw [← h]
  congr 1
  rw [IntKind.wrap_u64]
  simp only [Nat.zero_mul, Int.pow_zero, Int.mul_one]
  omega
set_option maxRecDepth 20000 in
set_option maxHeartbeats 1000000 in
theorem first_any (s : ByteArray) (hs : s.size ≤ 8192) (T : Tk) (hT : tk 0 0 s.data.toList = T) (w : World) :
    Calls Try.prog 104 #[.string s] w fun e w' => e = .returned (.tuple #[.int .u64 (T.n : Int), .int .i64 (T.sz : Int), .int .i64 T.er]) ∧ w' = w := by
  go_enter Try.func104, Try.ntmps104
  go_wp2
  go_loopw [2, 9] (fun c2 c9 wr => ∃ n i : Nat, i ≤ 9 ∧ i ≤ s.size ∧ n < 128 ^ i ∧ tk n i (s.data.toList.drop i) = T ∧ c2 = .int .u64 (n : Int) ∧ c9 = .int .i64 (i : Int) ∧ wr = w) (fun _ c9 _ => s.size - (intOf c9).toNat)
  case atStart =>
    exact ⟨0, 0, by omega, by omega, by decide, hT, rfl, rfl, rfl⟩
  case round =>
    obtain ⟨n, i, h9, his, hn, hk, rfl, rfl, rfl⟩ := hrel
    have HN : Hid (n < 128 ^ i) := hn
    clear hn hT
    by_cases hlt : i < s.size
    · have hlt' : (i : Int) < (s.size : Int) := by omega
      rw [drop_at s i hlt] at hk
      obtain ⟨b, hb⟩ : ∃ b : UInt8, s[i] = b := ⟨_, rfl⟩
      rw [hb] at hk
      have HK : Hid (tk n i (b :: s.data.toList.drop (i + 1)) = T) := hk
      clear hk
      have hb8 : b.toNat < 256 := UInt8.toNat_lt b
      by_cases h0 : i = 0
      · subst h0
        have hok : ¬ ((0 < 0 ∧ b.toNat = 0) ∨ (0 = 9 ∧ 1 < b.toNat)) := by omega
        by_cases h128 : b.toNat < 128
        · have h128' : (b.toNat : Int) < 128 := by omega
          have HT : Hid (T = ⟨n + b.toNat % 128 * 128 ^ 0, 0 + 1, 0⟩) := HK.out.symm.trans (tk_end hok h128)
          clear HK hok
          go_wp2
          go_ret3
          rw [or_val0 HN.out, HT.out]
          exact ⟨rfl, rfl⟩
        · have h128' : ¬ (b.toNat : Int) < 128 := by omega
          have HT : Hid (tk (n + b.toNat % 128 * 128 ^ 0) (0 + 1) (s.data.toList.drop (0 + 1)) = T) := (tk_on hok h128).symm.trans HK.out
          clear HK hok
          go_wp2
          go_roundw
          case rel =>
            exact ⟨n + b.toNat % 128 * 128 ^ 0, 0 + 1, by omega, by omega, step_lt HN.out, HT.out, by rw [or_val0 HN.out], rfl, by trivial⟩
          case measure => simp [intOf]; omega
      · have h0' : (0 : Int) < (i : Int) := by omega
        by_cases hz : b.toNat = 0
        · have hz' : (b.toNat : Int) = 0 := by omega
          have HT : Hid (T = ⟨0, 0, 6⟩) := HK.out.symm.trans (tk_bad (Or.inl ⟨by omega, hz⟩))
          clear HK
          go_wp2
          go_ret3
          rw [HT.out]
          exact ⟨rfl, rfl⟩
        · have hz' : ¬ (b.toNat : Int) = 0 := by omega
          by_cases hi9 : i = 9
          · subst hi9
            by_cases h1 : 1 < b.toNat
            · have h1' : (1 : Int) < (b.toNat : Int) := by omega
              have HT : Hid (T = ⟨0, 0, 6⟩) := HK.out.symm.trans (tk_bad (Or.inr ⟨rfl, h1⟩))
              clear HK
              go_wp2
              go_ret3
              rw [HT.out]
              exact ⟨rfl, rfl⟩
            · have h1' : ¬ (1 : Int) < (b.toNat : Int) := by omega
              have h128' : (b.toNat : Int) < 128 := by omega
              have hok : ¬ ((0 < 9 ∧ b.toNat = 0) ∨ (9 = 9 ∧ 1 < b.toNat)) := by omega
              have HT : Hid (T = ⟨n + b.toNat % 128 * 128 ^ 9, 9 + 1, 0⟩) := HK.out.symm.trans (tk_end hok (by omega))
              clear HK hok
              go_wp2
              go_ret3
              rw [or_val9 HN.out (by omega), HT.out]
              exact ⟨rfl, rfl⟩
          · have hi9' : ¬ (i : Int) = 9 := by omega
            have hok : ¬ ((0 < i ∧ b.toNat = 0) ∨ (i = 9 ∧ 1 < b.toNat)) := by omega
            have hi9n : Hid (i ≠ 9) := hi9
            have h7 : IntKind.i64.wrap ((i : Int) * 7) = (i : Int) * 7 := by rw [IntKind.wrap_i64]; omega
            have h70 : (0 : Int) ≤ (i : Int) * 7 := by omega
            have h71 : (i : Int) * 7 < 64 := by omega
            by_cases h128 : b.toNat < 128
            · have h128' : (b.toNat : Int) < 128 := by omega
              have HT : Hid (T = ⟨n + b.toNat % 128 * 128 ^ i, i + 1, 0⟩) := HK.out.symm.trans (tk_end hok h128)
              clear HK hok
              go_wp2
              go_ret3
              rw [or_val h9 HN.out (fun h => absurd h hi9n.out), HT.out]
              exact ⟨rfl, rfl⟩
            · have h128' : ¬ (b.toNat : Int) < 128 := by omega
              have HT : Hid (tk (n + b.toNat % 128 * 128 ^ i) (i + 1) (s.data.toList.drop (i + 1)) = T) := (tk_on hok h128).symm.trans HK.out
              clear HK hok
              go_wp2
              go_roundw
              case rel =>
                exact ⟨n + b.toNat % 128 * 128 ^ i, i + 1, by omega, by omega, step_lt HN.out, HT.out, by rw [or_val h9 HN.out (fun h => absurd h hi9n.out)], by go_num, by trivial⟩
              case measure => simp [intOf]; omega
    · obtain rfl : i = s.size := by omega
      have hlt' : ¬ ((s.size : Nat) : Int) < (s.size : Int) := by omega
      have hd : s.data.toList.drop s.size = [] := List.drop_eq_nil_of_le (by simp)
      rw [hd] at hk
      have HT : Hid (T = ⟨0, 0, 4⟩) := hk.symm
      clear hk hd
      go_wp2
      go_ret3
      rw [HT.out]
      exact ⟨rfl, rfl⟩
end Go.Proofs.Ytjmjlijmeahmfaa
