/- The walk of the exact law of PropText. -/
import Derived.Test.YtflnpkckdjmljaaProg
import Derived.Test.YtflnpkckdjmljaaPlain
import Derived.Test.YtflnpkckdjmljaaPropSpec
import Derived.Test.YtflnpkckdjmljaaPropImpl
import Derived.WalkKit
import Derived.WalkLawsBesides
import Derived.Laws.IdiomStrings
import Derived.Lib.Hide
import Derived.IntWalk
namespace Go.Proofs.Ytflnpkckdjmljaa
open Go.RowKit
set_option linter.unusedVariables false

set_option maxRecDepth 100000 in
set_option maxHeartbeats 1600000 in
theorem fnExactPropText_walk (a0 : ByteArray) (w : World) (w0 : a0.size ≤ maxLen) :
    Calls Try.prog 3 #[.string a0] w fun e w' => e = .returned (.bool true) ∧ Below w.heap.size w w' := by
  unfold maxLen at w0
  by_cases h0 : (a0.size : Int) ≤ 1048576
  · have K1 := Lib.hid (fun w => propText_spec a0 w (by omega))
    have K2 := Lib.hid (fun w => propText_impl a0 w h0)
    generalize (propT a0).1 = t at *
    generalize (propT a0).2 = o at *
    have hrr : (t.toList == t.toList) = true := by simp
    have hrn : (t.toList != t.toList) = false := by simp
    have hoo : (o != o) = false := by simp
    have hoe : (o == o) = true := by simp
    go_enter Try.func3, Try.ntmps3
    go_wp2_with fail
    refine (K1.out _).mono ?_
    rintro e w1 ⟨rfl, hb1⟩
    go_wp2_with fail
    refine (K2.out _).mono ?_
    rintro e w2 ⟨rfl, hb2⟩
    have hb3 := hb1.trans (hb2.mono hb1.size)
    clear hb1 hb2 K1 K2
    go_wp2
    go_ret
    exact ⟨rfl, hb3⟩
  · go_enter Try.func3, Try.ntmps3
    go_wp2
    go_ret
    exact ⟨rfl, Below.refl _ _⟩

end Go.Proofs.Ytflnpkckdjmljaa
