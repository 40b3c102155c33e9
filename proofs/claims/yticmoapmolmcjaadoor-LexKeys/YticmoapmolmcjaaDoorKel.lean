/- LexKeys, called. -/
import Derived.Test.YticmoapmolmcjaaDoorAw
namespace Go.Proofs.YticmoapmolmcjaaDoor
open Go.RowKit Go.Shelf
set_option maxRecDepth 20000 in
set_option maxHeartbeats 8000000 in
theorem keys_walk (s : ByteArray) (W : World) (he : Er W) : Calls Tryd.prog 4 #[.string s] W fun e w' => e = .returned (.bool true) ∧ Below W.heap.size W w' := by
  have ha := awake_any W he
  have hk := key_any s
  have hr := rkey_any s
  obtain ⟨K, hK⟩ : ∃ K, keyB s.data.toList = K := ⟨_, rfl⟩
  rw [hK] at hk hr
  clear hK
  go_enter Tryd.func4, Tryd.ntmps4
  go_wp2_with fail
  refine ha.mono ?_
  rintro e w1 ⟨rfl, hb1⟩
  go_wp2_with fail
  refine (hk _).mono ?_
  rintro e w2 ⟨rfl, rfl⟩
  go_wp2_with fail
  refine (hr _).mono ?_
  rintro e w3 ⟨rfl, hb3⟩
  go_wp2
  go_ret
  exact ⟨by simp, hb1.trans (hb3.mono hb1.size)⟩
end Go.Proofs.YticmoapmolmcjaaDoor
