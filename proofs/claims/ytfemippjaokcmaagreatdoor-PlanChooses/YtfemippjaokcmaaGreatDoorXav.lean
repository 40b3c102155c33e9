/- Cut: a short text, too many parts. Cut: a long text, not too many parts. Cut: a short text, not too many parts. -/
import Derived.Test.YtfemippjaokcmaaGreatDoorXau
import Derived.Deep.RegionHeld3
import Derived.Deep.RegionLaw
import Derived.BigGuardPart
namespace Go.Proofs.YtfemippjaokcmaaGreatDoor.V
open Go.RowKit
end Go.Proofs.YtfemippjaokcmaaGreatDoor.V
namespace Go.Proofs.YtfemippjaokcmaaGreatDoor.V
open Go.RowKit
end Go.Proofs.YtfemippjaokcmaaGreatDoor.V
namespace Go.Proofs.YtfemippjaokcmaaGreatDoor.V
open Go.RowKit
end Go.Proofs.YtfemippjaokcmaaGreatDoor.V
