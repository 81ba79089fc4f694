/- Escapes taken back: the program's Unescape, which recovers. -/
import Derived.Test.YteocaaclcecolaaProg
import Derived.Test.YteocaaclcecolaaPlain
import Derived.Test.YteocaaclcecolaaDialectRows
import Derived.Test.YteocaaclcecolaaUnescSpec
import Derived.Test.YteocaaclcecolaaUnescImpl
import Derived.Test.YteocaaclcecolaaUnescRun
import Derived.WalkKit
import Derived.WalkLawsBesides
import Derived.Tactics
import Derived.Tactics2
import Derived.Defers
import Derived.Recover
import Derived.Lib.Hide
import Derived.IntWalk
set_option maxRecDepth 100000
namespace Go.Proofs.Yteocaaclcecolaa
open Go.RowKit
set_option linter.unusedVariables false

end Go.Proofs.Yteocaaclcecolaa
