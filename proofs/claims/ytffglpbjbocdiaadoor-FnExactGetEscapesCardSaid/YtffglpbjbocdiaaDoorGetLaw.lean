/- The walk of the exact law of GetEscapes. -/
import Derived.Test.YtffglpbjbocdiaaDoorProg
import Derived.Test.YtffglpbjbocdiaaDoorPlain
import Derived.Test.YtffglpbjbocdiaaDoorGetSpec
import Derived.Test.YtffglpbjbocdiaaDoorGetImpl
import Derived.WalkKit
import Derived.WalkLawsBesides
import Derived.Lib.Hide
import Derived.IntWalk
namespace Go.Proofs.YtffglpbjbocdiaaDoor
open Go.RowKit
set_option linter.unusedVariables false

theorem fnExactGetEscapes_walk (a0 : ByteArray) (w0 : a0.size ≤ maxLen) (w : World) (hT : TabsV w) :
    Calls Tryd.prog 8 #[.string a0] w fun e w' => e = .returned (.bool true) ∧ Below w.heap.size w w' := by
  unfold maxLen at w0
  by_cases h0 : (a0.size : Int) ≤ 1048576
  · have K1 := Lib.hid (get_spec a0 (by omega) w)
    have K2 := Lib.hid (get_impl a0 (by omega))
    have HT := Lib.hid hT
    obtain ⟨yy, bb, hr⟩ : ∃ yy bb, getRes a0.data.toList = .tuple #[.string yy, .bool bb] := by
      unfold getRes
      split
      · exact ⟨_, _, rfl⟩
      · exact ⟨_, _, rfl⟩
    rw [hr] at K1 K2
    have hyy : (!(yy.toList == yy.toList)) = false := by simp
    have hbb : (bb != bb) = false := by simp
    clear hT hr
    go_enter Tryd.func8, Tryd.ntmps8
    go_wp2_with fail
    refine K1.out.mono ?_
    rintro e w2 ⟨rfl, hb⟩
    have T2 := tabs_over HT.out hb
    go_wp2_with fail
    refine (K2.out _ T2).mono ?_
    rintro e w3 ⟨rfl, hb3⟩
    have hb4 := hb.trans (hb3.mono hb.size)
    clear T2 K1 K2
    go_wp2
    all_goals first | (exfalso; simp_all; done) | (go_ret; exact ⟨rfl, hb4⟩)
  · go_enter Tryd.func8, Tryd.ntmps8
    go_wp2
    go_ret
    exact ⟨rfl, Below.refl _ _⟩

end Go.Proofs.YtffglpbjbocdiaaDoor
