/- FrameChecks, called: of any text the call returns true, and nothing that was there has changed. -/
import Derived.Test.YthhjaploldhdaaaDoorAwk
namespace Go.Proofs.YthhjaploldhdaaaDoor
open Go Go.RowKit
set_option maxHeartbeats 1000000 in
theorem checks_walk (s : ByteArray) (w : World) (hG : GL w) :
    Calls Tryd.prog 3 #[.string s] w fun e w' => e = .returned (.bool true) ∧ Below w.heap.size w w' := by
  go_enter Tryd.func3, Tryd.ntmps3
  go_wp2_with fail
  refine (awake_any w hG).mono ?_
  rintro e w1 ⟨rfl, hb1⟩
  have hG1 := hG.later rfl hb1
  go_wp2_with fail
  refine (few_any s w1).mono ?_
  rintro e w' ⟨t, rfl, ht, hts, rfl⟩
  go_wp2_with fail
  refine (check_any t (by omega) _ hG1).mono ?_
  rintro e w' ⟨rfl, rfl⟩
  go_wp2_with fail
  refine (few_any s _).mono ?_
  rintro e w' ⟨t2, rfl, ht2, hts2, rfl⟩
  obtain rfl : t = t2 := by
    apply ByteArray.ext
    apply Array.toList_inj.1
    rw [ht, ht2]
  go_wp2_with fail
  refine (rcheck_any t (by omega) _).mono ?_
  rintro e w' ⟨rfl, rfl⟩
  go_wp2
  go_ret
  exact ⟨rfl, hb1⟩
end Go.Proofs.YthhjaploldhdaaaDoor
