/- The simple values (None, Bool, Int, Str, Bytes). -/
import Derived.Test.YtaacbcnpagpdnaaDoorDec
namespace Go.Proofs.YtaacbcnpagpdnaaDoor
open Go.RowKit
set_option maxHeartbeats 1000000 in
theorem vint (n : Int) (w : World) : Calls Tryd.prog 27 #[.int .i64 n] w fun r w' => r = .returned ((leafT 2 false n ⟨#[]⟩).val ⟨none, 0, none, 0⟩) ∧ Below w.heap.size w w' := by
  go_enter Tryd.func27, Tryd.ntmps27
  go_wp2
  exact bodyPost_ret (v := .agg #[.int .i64 2, .bool false, .int .i64 n, .string ⟨#[]⟩, .slice none 0 0, .slice none 0 0]) (by simp [results, Tryd.results27, go_sem]) rfl ⟨rfl, (Below.refl _ _).alloc (Nat.le_refl _) _⟩
end Go.Proofs.YtaacbcnpagpdnaaDoor
