/- Contracts of the two functions Before. -/
import Derived.Test.YtkhcdopnohbieaaDoorProg
import Derived.Test.YtkhcdopnohbieaaDoorPlain
import Derived.WalkKit
import Derived.WalkLawsBesides
import Derived.BigQuiet
import Derived.Deep.QuietTactic
import Derived.Lib.Hide
import Derived.IntWalk
namespace Go.Proofs.YtkhcdopnohbieaaDoor
open Go.RowKit
set_option linter.unusedVariables false

theorem before_impl (a b : ByteArray) (w : World) :
    Calls Tryd.prog 21 #[.string a, .string b] w fun e w' => e = .returned (.bool (Op.bytesLess a.toList b.toList)) ∧ w = w' := by
  go_enter Tryd.func21, Tryd.ntmps21
  go_wp2
  go_ret
  exact ⟨rfl, rfl⟩

end Go.Proofs.YtkhcdopnohbieaaDoor
