/- The walk of the exact law of NameOk. -/
import Derived.Test.YthljlkngmfbeoaaProg
import Derived.Test.YthljlkngmfbeoaaPlain
import Derived.Test.YthljlkngmfbeoaaCut
import Derived.Test.YthljlkngmfbeoaaEnvLead
import Derived.Test.YthljlkngmfbeoaaEnvName
import Derived.WalkKit
import Derived.Lib.Hide
namespace Go.Proofs.Ythljlkngmfbeoaa
open Go.RowKit
set_option linter.unusedVariables false

set_option maxRecDepth 100000 in
set_option maxHeartbeats 1600000 in
theorem fnExactNameOk_walk (a0 : ByteArray) (w : World) (w0 : a0.size ≤ maxLen) :
    Calls Try.prog 3 #[.string a0] w fun e w' => e = .returned (.bool true) ∧ Below w.heap.size w w' := by
  by_cases h0 : a0.size ≤ 1048576
  · have K1 := Lib.hid (fun w => nameOk_spec a0 w h0)
    have K2 := Lib.hid (fun w => nameOk_impl a0 w h0)
    generalize nameB a0 = r at *
    go_enter Try.func3, Try.ntmps3
    go_wp2_with fail
    refine (K1.out _).mono ?_
    rintro e w1 ⟨rfl, hb1⟩
    go_wp2_with fail
    refine (K2.out _).mono ?_
    rintro e w2 ⟨rfl, hb2⟩
    have hb3 := hb1.trans (hb2.mono hb1.size)
    clear hb1 hb2
    have hq : (r != r) = false := by simp
    cases r
    all_goals
      go_wp2
      go_ret
      exact ⟨rfl, hb3⟩
  · go_enter Try.func3, Try.ntmps3
    go_wp2
    go_ret
    exact ⟨rfl, Below.refl _ _⟩

end Go.Proofs.Ythljlkngmfbeoaa
