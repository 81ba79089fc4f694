/- The walk of the exact law of EnvEscape. -/
import Derived.Test.YtkhkpjnpjgnckaaProg
import Derived.Test.YtkhkpjnpjgnckaaPlain
import Derived.Test.YtkhkpjnpjgnckaaEnvEscPure
import Derived.Test.YtkhkpjnpjgnckaaEnvEscSpec
import Derived.Test.YtkhkpjnpjgnckaaEnvEscImpl
import Derived.WalkKit
import Derived.Lib.Hide
namespace Go.Proofs.Ytkhkpjnpjgnckaa
open Go.RowKit
set_option linter.unusedVariables false

set_option maxRecDepth 100000 in
set_option maxHeartbeats 1600000 in
theorem fnExactEnvEscape_walk (a0 : ByteArray) (w : World) (w0 : a0.size ≤ maxLen) :
    Calls Try.prog 4 #[.string a0] w fun e w' => e = .returned (.bool true) ∧ Below w.heap.size w w' := by
  by_cases h0 : a0.size ≤ 1048576
  · have K1 := Lib.hid (fun w => envEscape_spec a0 w (by omega))
    have K2 := Lib.hid (fun w => envEscape_impl2 a0 w (by omega))
    generalize escVT a0 = r at *
    have hq : (r.toList != r.toList) = false := by simp
    have hq2 : (r.toList == r.toList) = true := by simp
    go_enter Try.func4, Try.ntmps4
    go_wp2_with fail
    refine (K1.out _).mono ?_
    rintro e w1 ⟨rfl, hb1⟩
    go_wp2_with fail
    refine (K2.out _).mono ?_
    rintro e w2 ⟨rfl, hb2⟩
    have hb3 := hb1.trans (hb2.mono hb1.size)
    clear hb1 hb2
    go_wp2
    go_ret
    exact ⟨rfl, hb3⟩
  · go_enter Try.func4, Try.ntmps4
    go_wp2
    go_ret
    exact ⟨rfl, Below.refl _ _⟩

end Go.Proofs.Ytkhkpjnpjgnckaa
