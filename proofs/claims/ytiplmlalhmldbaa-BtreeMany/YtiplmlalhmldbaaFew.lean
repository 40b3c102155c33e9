/- The laws' few: a text that is not too long. -/
import Derived.Test.YtiplmlalhmldbaaRng
namespace Go.Proofs.Ytiplmlalhmldbaa
open Go.RowKit Go.Shelf
theorem few_any (s : ByteArray) (hs : s.size ≤ maxLen) (w : World) : Calls Try.prog 8 #[.string s] w fun e w' => (∃ k, e = .returned (.string k)) ∧ Below w.heap.size w w' := by
  have hmx : maxLen = 9223372036854775807 := rfl
  by_cases h : 40 < s.size
  · have h' : (40 : Int) < (s.size : Int) := by omega
    go_enter Try.func8, Try.ntmps8
    go_wp2
    go_ret
    exact ⟨⟨_, rfl⟩, Below.refl _ _⟩
  · have h' : ¬ (40 : Int) < (s.size : Int) := by omega
    go_enter Try.func8, Try.ntmps8
    go_wp2
    go_ret
    exact ⟨⟨_, rfl⟩, Below.refl _ _⟩
end Go.Proofs.Ytiplmlalhmldbaa
