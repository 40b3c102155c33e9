/- math/bits.Len and merkle.half, the document's half: the greatest power of two below a number. -/
import Derived.Test.YtjamahpccblkiabDoorLeaves
import Derived.WalkKit
import Derived.WalkSpells
import Derived.WalkLawsBesides
import Derived.Lib.Strings
import Derived.Lib.Small
import Derived.Lib.Walk
import Derived.Lib.Tables
namespace Go.Proofs.YtjamahpccblkiabDoor
open Go.RowKit
theorem len8_log : ∀ n : Fin 256, Lib.len8 (n.val : Int) = (if n.val = 0 then 0 else (Nat.log2 n.val + 1 : Nat) : Int) := by decide +kernel
theorem len8_at (y : Nat) (h1 : 1 ≤ y) (h2 : y < Lib.len8tab.size) : (Lib.len8tab[y]'h2).toNat = Nat.log2 y + 1 := by
  have h3 : y < 256 := by rw [Lib.len8tab_size] at h2; exact h2
  have e := len8_log ⟨y, h3⟩
  rw [if_neg (show ¬ y = 0 by omega)] at e
  simp only [Lib.len8, Int.toNat_natCast, ByteArray.getElem?_lt' _ _ h2, Option.getD_some] at e
  exact Int.ofNat_inj.1 e
theorem log2_small {y : Nat} (h : y < 256) : Nat.log2 y < 8 := by
  by_cases h0 : y = 0
  · subst h0; decide
  · exact (Nat.log2_lt h0).2 h
theorem log2_div (x k : Nat) (h : 2 ^ k ≤ x) : Nat.log2 x = Nat.log2 (x / 2 ^ k) + k := by
  have hx : x ≠ 0 := by have := Nat.two_pow_pos k; omega
  have hp := Nat.two_pow_pos k
  have hd : x / 2 ^ k ≠ 0 := by have := Nat.div_pos h hp; omega
  have a : Nat.log2 (x / 2 ^ k) + k ≤ Nat.log2 x := by
    rw [Nat.le_log2 hx, Nat.pow_add]
    have := Nat.log2_self_le hd
    calc 2 ^ (x / 2 ^ k).log2 * 2 ^ k ≤ x / 2 ^ k * 2 ^ k := Nat.mul_le_mul_right _ this
      _ ≤ x := Nat.div_mul_le_self x _
  have b : Nat.log2 x < Nat.log2 (x / 2 ^ k) + k + 1 := by
    rw [Nat.log2_lt hx, show Nat.log2 (x / 2 ^ k) + k + 1 = (Nat.log2 (x / 2 ^ k) + 1) + k by omega, Nat.pow_add]
    have := Nat.lt_log2_self (n := x / 2 ^ k)
    rw [Nat.div_lt_iff_lt_mul hp] at this
    exact this
  omega
theorem len24 (x : Int) (k : Nat) (c : Int) (hc : c = k) (hk : k ≤ 24) (y : Int) (hy : y.toNat = x.toNat / 2 ^ k) (h0 : 1 ≤ y) (h2 : y < 256) (h : y.toNat < Lib.len8tab.size) (h3 : 2 ^ k ≤ x.toNat) :
    wrap64 (c + wrap64 ((Lib.len8tab[y.toNat]'h).toNat : Int)) = ((Nat.log2 x.toNat + 1 : Nat) : Int) := by
  have e := log2_div x.toNat k h3
  rw [len8_at _ (by omega)]
  have := log2_small (y := y.toNat) (by omega)
  rw [← hy] at e
  unfold wrap64
  omega
theorem len0 (x : Int) (h0 : 1 ≤ x) (h2 : x < 256) (h : x.toNat < Lib.len8tab.size) :
    wrap64 (wrap64 ((Lib.len8tab[x.toNat]'h).toNat : Int)) = ((Nat.log2 x.toNat + 1 : Nat) : Int) := by
  rw [len8_at _ (by omega)]
  have := log2_small (y := x.toNat) (by omega)
  unfold wrap64
  omega
theorem dv24 (x : Int) (h : 256 ≤ x / 65536) (h2 : x < 4294967296) : (x / 65536 / 256).toNat = x.toNat / 2 ^ 24 ∧ 1 ≤ x / 65536 / 256 ∧ x / 65536 / 256 < 256 ∧ 2 ^ 24 ≤ x.toNat := by omega
theorem dv16 (x : Int) (h : 65536 ≤ x) (h2 : x / 65536 < 256) : (x / 65536).toNat = x.toNat / 2 ^ 16 ∧ 1 ≤ x / 65536 ∧ x / 65536 < 256 ∧ 2 ^ 16 ≤ x.toNat := by omega
theorem dv8 (x : Int) (h : 256 ≤ x) (h2 : x < 65536) : (x / 256).toNat = x.toNat / 2 ^ 8 ∧ 1 ≤ x / 256 ∧ x / 256 < 256 ∧ 2 ^ 8 ≤ x.toNat := by omega
set_option maxHeartbeats 1000000 in
set_option maxRecDepth 20000 in
theorem len64_any (x : Int) (h1 : 1 ≤ x) (h2 : x < 4294967296) (w : World) :
    Calls Tryd.prog 41 #[.int .u64 x] w fun e w' => e = .returned (.int .i64 ((Nat.log2 x.toNat + 1 : Nat) : Int)) ∧ w' = w := by
  have hz : Lib.len8tab.size = 256 := rfl
  go_enter Tryd.func41, Tryd.ntmps41
  go_wp2
  all_goals (go_ret; refine ⟨congrArg Ending.returned (congrArg (Value.int IntKind.i64) ?_), rfl⟩)
  · rename_i a b c d
    obtain ⟨e1, e2, e3, e4⟩ := dv24 x c h2
    exact len24 x 24 24 rfl (by decide) _ e1 e2 e3 _ e4
  · rename_i a b c d
    obtain ⟨e1, e2, e3, e4⟩ := dv16 x b c
    exact len24 x 16 16 rfl (by decide) _ e1 e2 e3 _ e4
  · rename_i a b c d
    obtain ⟨e1, e2, e3, e4⟩ := dv8 x c b
    exact len24 x 8 8 rfl (by decide) _ e1 e2 e3 _ e4
  · rename_i a b c d
    exact len0 x h1 c _
theorem len_any (x : Int) (h1 : 1 ≤ x) (h2 : x < 4294967296) (w : World) :
    Calls Tryd.prog 31 #[.int .u64 x] w fun e w' => e = .returned (.int .i64 ((Nat.log2 x.toNat + 1 : Nat) : Int)) ∧ w' = w := by
  obtain ⟨r, hr⟩ : ∃ r : Int, ((Nat.log2 x.toNat + 1 : Nat) : Int) = r := ⟨_, rfl⟩
  have H := fun w => len64_any x h1 h2 w
  rw [hr]
  simp only [hr] at H
  clear hr
  go_enter Tryd.func31, Tryd.ntmps31
  go_wp2_with fail
  refine (H _).mono ?_
  rintro e w' ⟨rfl, rfl⟩
  go_wp2
  go_ret
  exact ⟨rfl, rfl⟩
end Go.Proofs.YtjamahpccblkiabDoor
