/- The walk of the exact law of SignText. -/
import Derived.Test.YtffglpbjbocdiaaProg
import Derived.Test.YtffglpbjbocdiaaPlain
import Derived.Test.YtffglpbjbocdiaaRuneText
import Derived.WalkKit
import Derived.WalkLawsBesides
import Derived.Lib.Hide
import Derived.IntWalk
namespace Go.Proofs.Ytffglpbjbocdiaa
open Go.RowKit
set_option linter.unusedVariables false

theorem fnExactSignText_walk (a0 : Int) (w : World) (w0 : (Lit.int .i64 a0).wf = true) :
    Calls Try.prog 3 #[.int .i64 a0] w fun e w' => e = .returned (.bool true) ∧ Below w.heap.size w w' := by
  go_enter Try.func3, Try.ntmps3
  go_wp2_with fail
  refine (signText_spec a0 _).mono ?_
  rintro e w2 ⟨rfl, hb⟩
  go_wp2_with fail
  refine (signText_impl a0 _).mono ?_
  rintro e w3 ⟨rfl, rfl⟩
  generalize signT a0 = v
  go_wp2
  all_goals first | (exfalso; simp_all; done) | (go_ret; exact ⟨rfl, hb⟩)

end Go.Proofs.Ytffglpbjbocdiaa
