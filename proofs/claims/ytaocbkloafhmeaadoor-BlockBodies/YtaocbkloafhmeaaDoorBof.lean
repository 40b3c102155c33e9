/- The law BlockBodies as a walk: of any block whose texts fit, any number and any text the call returns true, and nothing that was there has changed. -/
import Derived.Test.YtaocbkloafhmeaaDoorBo0
import Derived.Test.YtaocbkloafhmeaaDoorBo1
import Derived.Test.YtaocbkloafhmeaaDoorBo2
namespace Go.Proofs.YtaocbkloafhmeaaDoor
open Go.RowKit
theorem bodies_walk (x : Bk) (hxf : x.fit) (p : Option Addr) (c : Nat) (t : Int) (bo : ByteArray) (w : World) (hw : 3 ≤ w.heap.size) (hG : GL w) (hD : GD w) (hX : Revs w p x.n c x.R) :
    Calls Tryd.prog 7 #[x.val p c, .int .i64 t, .string bo] w fun e w' => e = .returned (.bool true) ∧ Below w.heap.size w w' := by
  by_cases h0 : 0 < (cutB x).n
  · by_cases h1 : 0 ≤ t
    · exact bodies_0 x hxf p c t bo w hw hG hD hX ⟨h0, h1⟩
    · exact bodies_1 x hxf p c t bo w hw hG hD hX ⟨h0, h1⟩
  · exact bodies_2 x hxf p c t bo w hw hG hD hX (by omega)
end Go.Proofs.YtaocbkloafhmeaaDoor
