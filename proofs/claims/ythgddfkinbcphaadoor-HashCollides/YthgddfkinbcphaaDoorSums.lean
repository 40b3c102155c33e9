/- The law HashSums as a walk: of any string that fits, with the round numbers laid, the call returns true and nothing that was there has changed. -/
import Derived.Test.YthgddfkinbcphaaDoorSumr
import Derived.WalkKit
import Derived.WalkSpells
import Derived.WalkLawsBesides
import Derived.Deep.QuietTactic
import Derived.BigQuiet
namespace Go.Proofs.YthgddfkinbcphaaDoor
open Go.RowKit
def sumS (s : ByteArray) : ByteArray := ⟨(sumB s.data.toList).toArray⟩
theorem hsum (s : ByteArray) (hs : s.size ≤ 4096) (w : World) (hG : GL w) :
    Calls Tryd.prog 14 #[.string s] w fun e w' => e = .returned (.string (sumS s)) ∧ Below w.heap.size w w' := sum_any s hs w hG
theorem rsum (s : ByteArray) (hs : s.size ≤ 4096) (w : World) :
    Calls Tryd.prog 15 #[.string s] w fun e w' => e = .returned (.string (sumS s)) ∧ Below w.heap.size w w' := rsum_any s hs w
set_option maxHeartbeats 1000000 in
theorem sums_walk (s : ByteArray) (w : World) (hG : GL w) (hs : s.size ≤ maxLen) :
    Calls Tryd.prog 5 #[.string s] w fun e w' => e = .returned (.bool true) ∧ Below w.heap.size w w' := by
  have hf := fewS_size s
  go_enter Tryd.func5, Tryd.ntmps5
  go_wp2_with fail
  refine (awake_any _ hG).mono ?_
  rintro e w1 ⟨rfl, hb1⟩
  go_wp2_with fail
  refine (few_any s _ hs).mono ?_
  rintro e w2 ⟨rfl, rfl⟩
  go_wp2_with fail
  refine (hsum _ (by omega) _ (hG.later hb1)).mono ?_
  rintro e w3 ⟨rfl, hb3⟩
  go_wp2_with fail
  refine (few_any s _ hs).mono ?_
  rintro e w4 ⟨rfl, rfl⟩
  go_wp2_with fail
  refine (rsum _ (by omega) _).mono ?_
  rintro e w5 ⟨rfl, hb5⟩
  go_wp2
  go_ret
  have g1 := hb1.size
  have g3 := hb3.size
  exact ⟨rfl, hb1.trans ((hb3.mono (by omega)).trans (hb5.mono (by omega)))⟩
end Go.Proofs.YthgddfkinbcphaaDoor
