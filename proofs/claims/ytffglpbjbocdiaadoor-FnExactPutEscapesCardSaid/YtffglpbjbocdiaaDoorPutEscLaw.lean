/- The walk of the exact law of PutEscapes. -/
import Derived.Test.YtffglpbjbocdiaaDoorProg
import Derived.Test.YtffglpbjbocdiaaDoorPlain
import Derived.Test.YtffglpbjbocdiaaDoorPutEsc
import Derived.WalkKit
import Derived.WalkLawsBesides
import Derived.Lib.Hide
import Derived.IntWalk
namespace Go.Proofs.YtffglpbjbocdiaaDoor
open Go.RowKit
set_option linter.unusedVariables false

theorem fnExactPutEscapes_walk (a0 : ByteArray) (w0 : a0.size ≤ maxLen) (w : World) (hT : TabsV w) :
    Calls Tryd.prog 7 #[.string a0] w fun e w' => e = .returned (.bool true) ∧ Below w.heap.size w w' := by
  unfold maxLen at w0
  by_cases h0 : (a0.size : Int) ≤ 1048576
  · have K1 := Lib.hid (put_spec a0 (by omega) w)
    have K2 := Lib.hid (put_impl a0 (by omega))
    have HT := Lib.hid hT
    clear hT
    go_enter Tryd.func7, Tryd.ntmps7
    go_wp2_with fail
    refine K1.out.mono ?_
    rintro e w2 ⟨rfl, hb⟩
    have T2 := tabs_over HT.out hb
    go_wp2_with fail
    refine (K2.out _ T2).mono ?_
    rintro e w3 ⟨rfl, hb3⟩
    have hb4 := hb.trans (hb3.mono hb.size)
    clear T2 K1 K2
    generalize putT a0.data.toList = v
    go_wp2
    all_goals first | (exfalso; simp_all; done) | (go_ret; exact ⟨rfl, hb4⟩)
  · go_enter Tryd.func7, Tryd.ntmps7
    go_wp2
    go_ret
    exact ⟨rfl, Below.refl _ _⟩

end Go.Proofs.YtffglpbjbocdiaaDoor
