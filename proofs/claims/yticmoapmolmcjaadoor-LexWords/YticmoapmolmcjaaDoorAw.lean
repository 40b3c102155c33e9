/- Words is awake: the words of one text. -/
import Derived.Test.YticmoapmolmcjaaDoorWo
namespace Go.Proofs.YticmoapmolmcjaaDoor
open Go.RowKit Go.Shelf
theorem awake_words : wordsR [97, 32, 62, 61, 32, 45, 51, 32, 39, 120, 39] = ([⟨1, [97], 0⟩, ⟨6, [62, 61], 2⟩, ⟨6, [45], 5⟩, ⟨3, [51], 6⟩, ⟨4, [120], 8⟩, ⟨0, [], 11⟩], 0, 0) := by kernel_rfl
set_option maxRecDepth 20000 in
set_option maxHeartbeats 8000000 in
theorem awake_any (w : World) (he : Er w) : Calls Tryd.prog 11 #[] w fun e w' => e = .returned (.bool true) ∧ Below w.heap.size w w' := by
  have hw := words_any ⟨#[97, 32, 62, 61, 32, 45, 51, 32, 39, 120, 39]⟩ (by decide) w he
  simp only at hw
  rw [awake_words] at hw
  go_enter Tryd.func11, Tryd.ntmps11
  go_wp2_with fail
  refine hw.mono ?_
  rintro e w1 ⟨p, c, rfl, hsl, hb⟩
  obtain ⟨b, rfl, hlt, hcells⟩ := hsl.lies (by decide)
  have c4 := hcells 4 _ rfl
  have c13 := hcells 13 _ rfl
  have c15 := hcells 15 _ rfl
  have hcap := hsl.cap
  clear hsl hcells hw
  go_wp2
  go_ret
  exact ⟨rfl, hb⟩
end Go.Proofs.YticmoapmolmcjaaDoor
