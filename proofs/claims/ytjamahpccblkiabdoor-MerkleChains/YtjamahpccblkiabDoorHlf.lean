/- merkle.half and the document's half, called: the greatest power of two below a number. -/
import Derived.Test.YtjamahpccblkiabDoorBit
import Derived.Test.YtjamahpccblkiabDoorMer
import Derived.WalkKit
import Derived.WalkSpells
import Derived.WalkLawsBesides
namespace Go.Proofs.YtjamahpccblkiabDoor
open Go.RowKit
theorem pow_wrap (r : Nat) (h : r < 32) : wrap64 (2 ^ r) = ((2 ^ r : Nat) : Int) := by
  have h1 : (2 : Nat) ^ r ≤ 2 ^ 31 := Nat.pow_le_pow_right (by omega) (by omega)
  have h2 : ((2 : Int) ^ r) = ((2 ^ r : Nat) : Int) := by simp
  rw [h2]
  have h3 := Nat.two_pow_pos r
  generalize (2 : Nat) ^ r = z at h1 h3 ⊢
  unfold wrap64
  omega
set_option maxHeartbeats 1000000 in
theorem half_any (n : Int) (h1 : 2 ≤ n) (h2 : n ≤ 2147483648) (w : World) :
    Calls Tryd.prog 25 #[.int .i64 n] w fun e w' => e = .returned (.int .i64 ((half n.toNat : Nat) : Int)) ∧ w' = w := by
  have H := fun w => len_any (n - 1) (by omega) (by omega) w
  obtain ⟨r, hr⟩ : ∃ r : Nat, Nat.log2 (n - 1).toNat = r := ⟨_, rfl⟩
  have hh : half n.toNat = 2 ^ r := by
    unfold half
    rw [← hr]
    congr 2
    omega
  rw [hr] at H
  rw [hh]
  have hr2 : r < 32 := by
    rw [← hr, Nat.log2_lt (by omega)]
    omega
  have H2 : Hid (Nat.log2 (n - 1).toNat = r) := hr
  clear hr hh
  go_enter Tryd.func25, Tryd.ntmps25
  go_wp2_with fail
  refine (H _).mono ?_
  rintro e w' ⟨rfl, rfl⟩
  go_wp2
  go_ret
  refine ⟨congrArg Ending.returned (congrArg (Value.int IntKind.i64) ?_), rfl⟩
  exact pow_wrap r hr2
theorem intOf_i64 (x : Int) : intOf (.int .i64 x) = x := rfl
end Go.Proofs.YtjamahpccblkiabDoor
