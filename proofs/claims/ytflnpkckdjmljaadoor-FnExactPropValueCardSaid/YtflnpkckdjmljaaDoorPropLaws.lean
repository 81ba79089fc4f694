/- The walks of the exact laws of PropKey, PropValue and PropPair. -/
import Derived.Test.YtflnpkckdjmljaaDoorProg
import Derived.Test.YtflnpkckdjmljaaDoorPlain
import Derived.Test.YtflnpkckdjmljaaDoorPropPair
import Derived.Test.YtflnpkckdjmljaaDoorPropEsc
import Derived.Test.YtflnpkckdjmljaaDoorPropEscTop
import Derived.Test.YtflnpkckdjmljaaDoorPropVal
import Derived.WalkKit
import Derived.WalkLawsBesides
import Derived.Laws.IdiomStrings
import Derived.Lib.Hide
import Derived.IntWalk
set_option maxRecDepth 100000
namespace Go.Proofs.YtflnpkckdjmljaaDoor
open Go.RowKit
set_option linter.unusedVariables false

theorem fnExactPropKey_walk (a0 : ByteArray) (w0 : a0.size ≤ maxLen) (w : World) (hT : Tabs7 w) :
    Calls Tryd.prog 5 #[.string a0] w fun e w' => e = .returned (.bool true) ∧ Below w.heap.size w w' := by
  unfold maxLen at w0
  by_cases h0 : (a0.size : Int) ≤ 1048576
  · have K1 := Lib.hid (propKey_spec a0 w (by omega))
    have K2 := Lib.hid (fun W (hb : Below w.heap.size w W) => propKey_impl a0 W h0 (hT.over hb))
    clear hT
    generalize propPutT true a0 = t at *
    have hrr : (t.toList == t.toList) = true := by simp
    have hrn : (t.toList != t.toList) = false := by simp
    go_enter Tryd.func5, Tryd.ntmps5
    go_wp2_with fail
    refine K1.out.mono ?_
    rintro e w1 ⟨rfl, hb1⟩
    go_wp2_with fail
    refine (K2.out _ hb1).mono ?_
    rintro e w2 ⟨rfl, hb2⟩
    have hb3 := hb1.trans (hb2.mono hb1.size)
    clear hb1 hb2 K1 K2
    go_wp2
    go_ret
    exact ⟨rfl, hb3⟩
  · go_enter Tryd.func5, Tryd.ntmps5
    go_wp2
    go_ret
    exact ⟨rfl, Below.refl _ _⟩

theorem fnExactPropValue_walk (a0 : ByteArray) (w0 : a0.size ≤ maxLen) (w : World) (hT : Tabs7 w) :
    Calls Tryd.prog 6 #[.string a0] w fun e w' => e = .returned (.bool true) ∧ Below w.heap.size w w' := by
  unfold maxLen at w0
  by_cases h0 : (a0.size : Int) ≤ 1048576
  · have K1 := Lib.hid (propValue_spec a0 w (by omega))
    have K2 := Lib.hid (fun W (hb : Below w.heap.size w W) => propValue_impl a0 W h0 (hT.over hb))
    clear hT
    generalize propPutT false a0 = t at *
    have hrr : (t.toList == t.toList) = true := by simp
    have hrn : (t.toList != t.toList) = false := by simp
    go_enter Tryd.func6, Tryd.ntmps6
    go_wp2_with fail
    refine K1.out.mono ?_
    rintro e w1 ⟨rfl, hb1⟩
    go_wp2_with fail
    refine (K2.out _ hb1).mono ?_
    rintro e w2 ⟨rfl, hb2⟩
    have hb3 := hb1.trans (hb2.mono hb1.size)
    clear hb1 hb2 K1 K2
    go_wp2
    go_ret
    exact ⟨rfl, hb3⟩
  · go_enter Tryd.func6, Tryd.ntmps6
    go_wp2
    go_ret
    exact ⟨rfl, Below.refl _ _⟩

theorem fnExactPropPair_walk (a0 a1 : ByteArray) (w0 : a0.size ≤ maxLen) (w1 : a1.size ≤ maxLen) (w : World) (hT : Tabs7 w) :
    Calls Tryd.prog 7 #[.string a0, .string a1] w fun e w' => e = .returned (.bool true) ∧ Below w.heap.size w w' := by
  unfold maxLen at w0 w1
  by_cases h0 : (a0.size : Int) ≤ 1048576
  · by_cases h1 : (a1.size : Int) ≤ 1048576
    · have K1 := Lib.hid (propPair_spec a0 a1 w (by omega) (by omega))
      have K2 := Lib.hid (fun W (hb : Below w.heap.size w W) => propPair_impl a0 a1 W h0 h1 (hT.over hb))
      clear hT
      generalize propPutT true a0 ++ (⟨#[61]⟩ : ByteArray) ++ propPutT false a1 = t at *
      have hrr : (t.toList == t.toList) = true := by simp
      have hrn : (t.toList != t.toList) = false := by simp
      go_enter Tryd.func7, Tryd.ntmps7
      go_wp2_with fail
      refine K1.out.mono ?_
      rintro e w1 ⟨rfl, hb1⟩
      go_wp2_with fail
      refine (K2.out _ hb1).mono ?_
      rintro e w2 ⟨rfl, hb2⟩
      have hb3 := hb1.trans (hb2.mono hb1.size)
      clear hb1 hb2 K1 K2
      go_wp2
      go_ret
      exact ⟨rfl, hb3⟩
    · go_enter Tryd.func7, Tryd.ntmps7
      go_wp2
      go_ret
      exact ⟨rfl, Below.refl _ _⟩
  · go_enter Tryd.func7, Tryd.ntmps7
    go_wp2
    go_ret
    exact ⟨rfl, Below.refl _ _⟩

end Go.Proofs.YtflnpkckdjmljaaDoor
