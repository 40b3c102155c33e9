/- slices.Clone of bytes, maps.Clone of a nil map, called. -/
import Derived.Test.YtgjalfcpfgbneaaGreatDoorLos
import Derived.Deep.RegionLaw
namespace Go.Proofs.YtgjalfcpfgbneaaGreatDoor
open Go.RowKit
theorem eql_map82 (w : World) (m : Option Nat) : (binOp .eql 95 (.map m) (.map none)).run Tryz.prog w = .ok (.bool m.isNone) w := by
  simp [binOp, run_equal_map_nil w 95 3 135 m Tryz.underlying95, Result.andThen]
theorem eql_slice (w : World) (a : Option Addr) (l c : Nat) : (binOp .eql 65 (.slice a l c) (.slice none 0 0)).run Tryz.prog w = .ok (.bool a.isNone) w := by
  simp [binOp, run_equal_slice_nil w 65 5 a l c Tryz.underlying65, Result.andThen]
end Go.Proofs.YtgjalfcpfgbneaaGreatDoor
