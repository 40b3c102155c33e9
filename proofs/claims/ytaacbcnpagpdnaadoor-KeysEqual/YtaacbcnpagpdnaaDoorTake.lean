/- The calls of a cursor that take something: Uint, Int, Count, Bytes, Text, Bool, and End; what each answers, and the cursor behind it, in plain words (the functions ..A). -/
import Derived.Test.YtaacbcnpagpdnaaDoorNum
import Derived.WalkKit
import Derived.WalkSpells
import Derived.WalkLawsBesides
import Derived.Deep.QuietTactic
import Derived.BigQuiet
import Derived.Lib.Strings
namespace Go.Proofs.YtaacbcnpagpdnaaDoor
open Go.RowKit
end Go.Proofs.YtaacbcnpagpdnaaDoor
