/- The document's bytes of a number (Uint): of any number the call returns the bytes that the plain facts have, and nothing that was there has changed. -/
import Derived.Test.YtaacbcnpagpdnaaDoorPut
import Derived.WalkKit
import Derived.WalkSpells
import Derived.WalkLawsBesides
import Derived.Deep.QuietTactic
import Derived.BigQuiet
import Derived.Deep.RegionWith
import Derived.Lib.Strings
namespace Go.Proofs.YtaacbcnpagpdnaaDoor
open Go.RowKit
theorem conv1w (W : World) (g : Nat) (b : UInt8) (v : Int) (hv : v = (b.toNat : Int)) (hc : W.cell? ⟨g, 0, none⟩ = some (.int .u8 v)) : (convert 56 9 (.slice (some ⟨g, 0, none⟩) 1 1)).run Tryd.prog W = .ok (.string ⟨#[b]⟩) W := by
  refine run_convert_bytes_back (P := Tryd.prog) W 56 9 5 ⟨g, 0, none⟩ 1 [b] Tryd.underlying56 Tryd.underlying5 Tryd.underlying9 (fun j hj => ?_)
  obtain rfl : j = 0 := by simp at hj; omega
  have e : (⟨g, 0, none⟩ : Addr).add 0 = ⟨g, 0, none⟩ := by unfold Addr.add; split <;> simp_all
  rw [e, hc, hv]; rfl
theorem conv1 (W : World) (b : UInt8) (t : TypeId) (v : Int) (hv : v = (b.toNat : Int)) : (convert 56 9 (.slice (some ⟨W.heap.size, 0, none⟩) 1 1)).run Tryd.prog (W.alloc (.cells #[.int .u8 v] t)) = .ok (.string ⟨#[b]⟩) (W.alloc (.cells #[.int .u8 v] t)) :=
  conv1w _ _ b v hv (cell_of_row _ _ 0 _ _ _ (heap_alloc_new _ _))
end Go.Proofs.YtaacbcnpagpdnaaDoor
