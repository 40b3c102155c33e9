/- RangesGather, called. -/
import Derived.Test.YtfcenidepkjdcaaDoorGal
import Derived.Test.YtfcenidepkjdcaaDoorGag
import Derived.Test.YtfcenidepkjdcaaDoorOpg
namespace Go.Proofs.YtfcenidepkjdcaaDoor
open Go.RowKit Go.Shelf
theorem gather_walk (w : World) (l : List Rd) (pl : Option Addr) (cl : Nat) (lt : List Tc) (pt : Option Addr) (ct : Nat) (hg : V.Gm w) (hL : Lk w l pl) (hln : l.length ≤ maxLen) (hT : Tl w lt pt) (htn : lt.length ≤ maxLen) :
    Calls Tryd.prog 4 #[.slice pl l.length cl, .slice pt lt.length ct] w fun e w' => e = .returned (.bool true) ∧ Below w.heap.size w w' := by
  by_cases h : l.length ≤ 30
  · exact gather_l w l pl cl lt pt ct hg hL hln hT htn h
  · exact gather_g w l pl cl lt pt ct hg hL hln hT htn (by omega)
end Go.Proofs.YtfcenidepkjdcaaDoor
