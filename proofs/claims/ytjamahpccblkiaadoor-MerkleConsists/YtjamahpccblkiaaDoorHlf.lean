/- merkle.half and the document's half, called: the greatest power of two below a number. -/
import Derived.Test.YtjamahpccblkiaaDoorBit
import Derived.Test.YtjamahpccblkiaaDoorMer
import Derived.WalkKit
import Derived.WalkSpells
import Derived.WalkLawsBesides
namespace Go.Proofs.YtjamahpccblkiaaDoor
open Go.RowKit
theorem pow_wrap (r : Nat) (h : r < 32) : wrap64 (2 ^ r) = ((2 ^ r : Nat) : Int) := by
  have h1 : (2 : Nat) ^ r ≤ 2 ^ 31 := Nat.pow_le_pow_right (by omega) (by omega)
  have h2 : ((2 : Int) ^ r) = ((2 ^ r : Nat) : Int) := by simp
  rw [h2]
  have h3 := Nat.two_pow_pos r
  generalize (2 : Nat) ^ r = z at h1 h3 ⊢
  unfold wrap64
  omega
set_option maxHeartbeats 1000000 in
theorem half_any (n : Int) (h1 : 2 ≤ n) (h2 : n ≤ 2147483648) (w : World) :
    Calls Tryd.prog 42 #[.int .i64 n] w fun e w' => e = .returned (.int .i64 ((half n.toNat : Nat) : Int)) ∧ w' = w := by
  have H := fun w => len_any (n - 1) (by omega) (by omega) w
  obtain ⟨r, hr⟩ : ∃ r : Nat, Nat.log2 (n - 1).toNat = r := ⟨_, rfl⟩
  have hh : half n.toNat = 2 ^ r := by
    unfold half
    rw [← hr]
    congr 2
    omega
  rw [hr] at H
  rw [hh]
  have hr2 : r < 32 := by
    rw [← hr, Nat.log2_lt (by omega)]
    omega
  have H2 : Hid (Nat.log2 (n - 1).toNat = r) := hr
  clear hr hh
  go_enter Tryd.func42, Tryd.ntmps42
  go_wp2_with fail
  refine (H _).mono ?_
  rintro e w' ⟨rfl, rfl⟩
  go_wp2
  go_ret
  refine ⟨congrArg Ending.returned (congrArg (Value.int IntKind.i64) ?_), rfl⟩
  exact pow_wrap r hr2
theorem intOf_i64 (x : Int) : intOf (.int .i64 x) = x := rfl
set_option maxHeartbeats 1000000 in
theorem rhalf_any (n : Int) (h1 : 2 ≤ n) (h2 : n ≤ 2147483648) (w : World) :
    Calls Tryd.prog 31 #[.int .i64 n] w fun e w' => e = .returned (.int .i64 ((half n.toNat : Nat) : Int)) ∧ w' = w := by
  obtain ⟨r, hr⟩ : ∃ r : Int, ((half n.toNat : Nat) : Int) = r := ⟨_, rfl⟩
  rw [hr]
  have H2 : Hid (((half n.toNat : Nat) : Int) = r) := hr
  clear hr
  go_enter Tryd.func31, Tryd.ntmps31
  go_wp2
  go_loopw [3] (fun v wr => ∃ k : Int, ∃ j : Nat, Hid (k = ((2 ^ j : Nat) : Int)) ∧ 1 ≤ k ∧ k < n ∧ v = .int .i64 k ∧ wr = w) (fun v _ => (n - intOf v).toNat)
  case atStart => exact ⟨1, 0, rfl, by omega, by omega, rfl, rfl⟩
  case round =>
    obtain ⟨k, j, hk, hk1, hk2, rfl, rfl⟩ := hrel
    by_cases hlt : k + k < n
    · go_wp2
      go_roundw
      case rel => exact ⟨k + k, j + 1, by unfold Hid; rw [hk.out, Nat.pow_succ]; omega, by omega, hlt, rfl, by trivial⟩
      case measure =>
        show (n - (k + k)).toNat < (n - k).toNat
        omega
    · go_wp2
      go_ret
      have e : ((half n.toNat : Nat) : Int) = k := by
        rw [half_unique (n := n.toNat) (k := j) (by have := hk.out; omega) (by have := hk.out; omega)]
        exact hk.out.symm
      exact ⟨congrArg (fun z => Ending.returned (Value.int .i64 z)) (e.symm.trans H2.out), rfl⟩
end Go.Proofs.YtjamahpccblkiaaDoor
