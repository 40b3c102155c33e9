/- The order of texts and of numbers (strings.Compare, cmp.Compare). -/
import Derived.Test.YtjmjlijmeahmfaaSound
import Derived.Test.YtjmjlijmeahmfaaFst
import Derived.Lib.Bytealg
import Derived.Laws.Externs
import Derived.BigGuardPart
namespace Go.Proofs.Ytjmjlijmeahmfaa
open Go.RowKit
def cmpI (x y : Int) : Int := if x < y then -1 else if y < x then 1 else 0
def cmpB (a b : ByteArray) : Int := Lib.compareBytes a.data.toList b.data.toList
set_option maxHeartbeats 1000000 in
theorem scmp0 (a b : ByteArray) (w : World) : Calls Try.prog 85 #[.string a, .string b] w fun e w' => e = .returned (.int .i64 (cmpB a b)) ∧ w' = w := by
  have h : (callFunc 98 #[.string a, .string b]).run Try.prog w = .ok (.value (.int .i64 (cmpB a b))) w := by
    rw [run_callFunc_extern Try.func98 (by kernel_rfl) (by kernel_rfl) (by kernel_rfl) (e := Extern.BytealgCompare.compare) (by kernel_rfl), Lib.run_compareString]
    rfl
  go_enter Try.func85, Try.ntmps85
  go_wp2
  go_ret
  exact ⟨rfl, rfl⟩
set_option maxHeartbeats 1000000 in
theorem scmp (a b : ByteArray) (w : World) : Calls Try.prog 51 #[.string a, .string b] w fun e w' => e = .returned (.int .i64 (cmpB a b)) ∧ w' = w := by
  go_enter Try.func51, Try.ntmps51
  go_wp2_with fail
  refine (scmp0 a b _).mono ?_
  rintro e w ⟨rfl, rfl⟩
  go_wp2
  go_ret
  exact ⟨rfl, rfl⟩
set_option maxHeartbeats 1000000 in
theorem icmp (x y : Int) (w : World) : Calls Try.prog 50 #[.int .i64 x, .int .i64 y] w fun e w' => e = .returned (.int .i64 (cmpI x y)) ∧ w' = w := by
  unfold cmpI
  by_cases h : x < y
  · rw [if_pos h]
    go_enter Try.func50, Try.ntmps50
    go_wp2
    go_ret
    exact ⟨rfl, rfl⟩
  · rw [if_neg h]
    by_cases h2 : y < x
    · rw [if_pos h2]
      go_enter Try.func50, Try.ntmps50
      go_wp2
      go_ret
      exact ⟨rfl, rfl⟩
    · obtain rfl : x = y := by omega
      rw [if_neg h2]
      go_enter Try.func50, Try.ntmps50
      go_wp2
      go_ret
      exact ⟨rfl, rfl⟩
set_option maxHeartbeats 1000000 in
theorem lcmp (x y : Int) (w : World) : Calls Try.prog 53 #[.int .i64 x, .int .i64 y] w fun e w' => e = .returned (.int .i64 (cmpI x y)) ∧ w' = w := by
  unfold cmpI
  by_cases h : x < y
  · rw [if_pos h]
    go_enter Try.func53, Try.ntmps53
    go_wp2
    go_ret
    exact ⟨rfl, rfl⟩
  · rw [if_neg h]
    by_cases h2 : y < x
    · rw [if_pos h2]
      go_enter Try.func53, Try.ntmps53
      go_wp2
      go_ret
      exact ⟨rfl, rfl⟩
    · obtain rfl : x = y := by omega
      rw [if_neg h2]
      go_enter Try.func53, Try.ntmps53
      go_wp2
      go_ret
      exact ⟨rfl, rfl⟩
def cmpF (q uq : Nat) (g ug : Nat → ByteArray) (C : Nat → Int) (i : Nat) : Int := if i < min q uq ∧ (g i).data.toList ≠ (ug i).data.toList then cmpB (g i) (ug i) else C i
def cmpT : Tr → Tr → Int
  | .no, _ => 0
  | .mk k b n s m f q g, u =>
    if k = u.k then
      (if k = 1 then cmpB (boolB b) (boolB u.b) else if k = 2 then cmpI n u.n else if k = 3 ∨ k = 4 then cmpB s u.s
       else if k = 5 ∨ k = 6 then (if fe (min m u.m) (cmpF q u.q g u.g (fun i => cmpT (f i) (u.f i))) = 0 then cmpI m u.m else fe (min m u.m) (cmpF q u.q g u.g (fun i => cmpT (f i) (u.f i)))) else 0)
    else cmpI k u.k
end Go.Proofs.Ytjmjlijmeahmfaa
