/- A clone of a value without parts and names (Clone, cloneAll). -/
import Derived.Test.YtjmjlijmeahmfaaDec
import Derived.OwnWalk
import Derived.Laws.AppendOwnNone
namespace Go.Proofs.Ytjmjlijmeahmfaa
open Go.RowKit
set_option maxHeartbeats 1000000 in
theorem cloneAll_none (a : Option Addr) (c : Nat) (w : World) : Calls Try.prog 63 #[.slice a 0 c] w fun r w' => r = .returned (.slice none 0 0) ∧ w' = w := by
  go_enter Try.func63, Try.ntmps63
  go_wp2
  go_ret
  exact ⟨rfl, rfl⟩
set_option maxHeartbeats 1000000 in
theorem clone_leaf (k : Int) (b : Bool) (n : Int) (s : ByteArray) (w : World) : Calls Try.prog 30 #[(leafT k b n s).val ⟨none, 0, none, 0⟩] w fun r w' => r = .returned ((leafT k b n s).val ⟨none, 0, none, 0⟩) ∧ Below w.heap.size w w' := by
  show Calls Try.prog 30 #[.agg #[.int .i64 k, .bool b, .int .i64 n, .string s, .slice none 0 0, .slice none 0 0]] w _
  go_enter Try.func30, Try.ntmps30
  go_wp2_with fail
  refine (cloneAll_none _ _ _).mono ?_
  rintro r w1 ⟨rfl, rfl⟩
  go_wp2
  exact bodyPost_ret (v := .agg #[.int .i64 k, .bool b, .int .i64 n, .string s, .slice none 0 0, .slice none 0 0]) (by simp [results, Try.results30, go_sem]) rfl ⟨rfl, ((Below.refl _ w).alloc (Nat.le_refl _) _).alloc (by simp) _⟩
end Go.Proofs.Ytjmjlijmeahmfaa
