/- The walk of the exact law of EnvPair. -/
import Derived.Test.YtkhkpjnpjgnckaaGreatDoorProg
import Derived.Test.YtkhkpjnpjgnckaaGreatDoorPlain
import Derived.Test.YtkhkpjnpjgnckaaGreatDoorEnvPutSpec
import Derived.Test.YtkhkpjnpjgnckaaGreatDoorEnvPutImpl
import Derived.WalkKit
import Derived.WalkLawsBesides
import Derived.Lib.Hide
import Derived.IntWalk
namespace Go.Proofs.YtkhkpjnpjgnckaaGreatDoor
open Go.RowKit
set_option linter.unusedVariables false

set_option maxRecDepth 100000 in
set_option maxHeartbeats 1600000 in
theorem fnExactEnvPair_walk (a0 a1 : ByteArray) (w0 : a0.size ≤ maxLen) (w1 : a1.size ≤ maxLen) (w : World) :
    Calls Tryz.prog 5 #[.string a0, .string a1] w fun e w' => e = .returned (.bool true) ∧ Below w.heap.size w w' := by
  unfold maxLen at w0 w1
  by_cases h0 : (a0.size : Int) ≤ 1048576
  · by_cases h1 : (a1.size : Int) ≤ 1048576
    · have K1 := Lib.hid (fun w => envPair_spec a0 a1 w (by omega) (by omega))
      have K2 := Lib.hid (fun w => envPair_impl a0 a1 w (by omega) (by omega))
      generalize putE a0 a1 = t at *
      obtain ⟨t0, t1⟩ := t
      simp only at K1 K2
      have hrr : (t0.toList == t0.toList) = true := by simp
      have hrn : (t0.toList != t0.toList) = false := by simp
      have hbn : (t1 != t1) = false := by simp
      go_enter Tryz.func5, Tryz.ntmps5
      go_wp2_with fail
      refine (K1.out _).mono ?_
      rintro e w1 ⟨rfl, hb1⟩
      go_wp2_with fail
      refine (K2.out _).mono ?_
      rintro e w2 ⟨rfl, hb2⟩
      have hb3 := hb1.trans (hb2.mono hb1.size)
      clear hb1 hb2 K1 K2
      go_wp2
      go_ret
      exact ⟨rfl, hb3⟩
    · go_enter Tryz.func5, Tryz.ntmps5
      go_wp2
      go_ret
      exact ⟨rfl, Below.refl _ _⟩
  · go_enter Tryz.func5, Tryz.ntmps5
    go_wp2
    go_ret
    exact ⟨rfl, Below.refl _ _⟩

end Go.Proofs.YtkhkpjnpjgnckaaGreatDoor
