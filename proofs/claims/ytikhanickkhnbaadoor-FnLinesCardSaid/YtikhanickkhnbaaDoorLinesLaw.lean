/- The walk of the exact law of SplitLines. -/
import Derived.Test.YtikhanickkhnbaaDoorProg
import Derived.Test.YtikhanickkhnbaaDoorPlain
import Derived.Test.YtikhanickkhnbaaDoorTexts
import Derived.Test.YtikhanickkhnbaaDoorMarks
import Derived.Test.YtikhanickkhnbaaDoorLines
import Derived.Test.YtikhanickkhnbaaDoorLinesArg
import Derived.Test.YtikhanickkhnbaaDoorSplitSpec
import Derived.Test.YtikhanickkhnbaaDoorSplitImpl
import Derived.WalkKit
import Derived.WalkLawsBesides
import Derived.Lib.Hide
import Derived.IntWalk
namespace Go.Proofs.YtikhanickkhnbaaDoor
open Go.RowKit
set_option linter.unusedVariables false

theorem own_new {w : World} {l : List Ln} {e : Ending} {w' : World} (h : OwnLines w l e w') : NewLines w l e w' := by
  obtain ⟨v, he, hr, hb⟩ := h
  obtain ⟨g, hI, hg⟩ := linesIs_of_owns hr rfl hb.size
  exact ⟨v, g, he, hI, hg, hb⟩

end Go.Proofs.YtikhanickkhnbaaDoor
