/- Cut: no parts are left. A value that is not too great (Cut), of any value. -/
import Derived.Test.YtfemippjaokcmaaGreatDoorXau
import Derived.Deep.RegionHeld3
import Derived.Deep.RegionLaw
import Derived.BigGuardPart
import Derived.Test.YtfemippjaokcmaaGreatDoorXav
namespace Go.Proofs.YtfemippjaokcmaaGreatDoor.V
open Go.RowKit
end Go.Proofs.YtfemippjaokcmaaGreatDoor.V
namespace Go.Proofs.YtfemippjaokcmaaGreatDoor.V
open Go.RowKit
end Go.Proofs.YtfemippjaokcmaaGreatDoor.V
