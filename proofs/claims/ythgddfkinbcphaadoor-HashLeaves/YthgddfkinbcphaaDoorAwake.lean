/- The digest of abc, called: awake returns true, and nothing that was there has changed. -/
import Derived.Test.YthgddfkinbcphaaDoorSumh
import Derived.WalkKit
import Derived.WalkSpells
import Derived.WalkLawsBesides
namespace Go.Proofs.YthgddfkinbcphaaDoor
open Go.RowKit
set_option maxHeartbeats 1000000 in
theorem awake_any (w : World) (hG : GL w) :
    Calls Tryd.prog 9 #[] w fun e w' => e = .returned (.bool true) ∧ Below w.heap.size w w' := by
  go_enter Tryd.func9, Tryd.ntmps9
  go_wp2_with fail
  refine (sum_any _ (by decide) _ hG).mono ?_
  rintro e w1 ⟨rfl, hb⟩
  rw [show sumB (⟨#[97, 98, 99]⟩ : ByteArray).data.toList = _ from abc]
  go_wp2
  go_ret
  exact ⟨rfl, hb⟩
end Go.Proofs.YthgddfkinbcphaaDoor
