/- The place of a name (slices.IndexFunc with the closure of Get). -/
import Derived.Test.YtjmjlijmeahmfaaFst
import Derived.BigGuardPart
namespace Go.Proofs.Ytjmjlijmeahmfaa
open Go.RowKit
set_option maxHeartbeats 1000000 in
theorem get1 (n s : ByteArray) (z : Nat) (w : World) (hz : w.cell? ⟨z, 0, none⟩ = some (.string s)) : Calls Try.prog 62 #[.string n, .pointer (some ⟨z, 0, none⟩)] w fun r w' => r = .returned (.bool (n.toList == s.toList)) ∧ w' = w := by
  go_enter Try.func62, Try.ntmps62
  go_wp2
  go_ret
  exact ⟨rfl, rfl⟩
end Go.Proofs.Ytjmjlijmeahmfaa
