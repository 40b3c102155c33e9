/- The calls of a cursor that take a text, and yes or no (Text, Bool). -/
import Derived.Test.YtaacbcnpagpdnaaDoorAnt
import Derived.WalkKit
import Derived.WalkSpells
import Derived.WalkLawsBesides
import Derived.Deep.QuietTactic
import Derived.BigQuiet
import Derived.Lib.Strings
namespace Go.Proofs.YtaacbcnpagpdnaaDoor
open Go.RowKit
end Go.Proofs.YtaacbcnpagpdnaaDoor
