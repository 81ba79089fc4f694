/- The walk of the exact law of LastOf. -/
import Derived.Test.YtdkghalcnaogfaaProg
import Derived.Test.YtdkghalcnaogfaaPlain
import Derived.Test.YtdkghalcnaogfaaKit
import Derived.Test.YtdkghalcnaogfaaRows0
import Derived.Test.YtdkghalcnaogfaaRecRows
import Derived.Test.YtdkghalcnaogfaaRecArg
import Derived.Test.YtdkghalcnaogfaaRecKit
import Derived.Test.YtdkghalcnaogfaaRecLast
import Derived.WalkKit
import Derived.WalkLawsBesides
import Derived.Lib.Hide
import Derived.IntWalk
namespace Go.Proofs.Ytdkghalcnaogfaa
open Go.RowKit
set_option linter.unusedVariables false

set_option maxRecDepth 100000 in
set_option maxHeartbeats 3200000 in
theorem fnExactLastOf_walk (u : Value) (g o : Nat) (l : List RecD) (a1 : ByteArray) (a2 : ByteArray) (w : World) (hu : RowsRd recS w u g o l) (hl : l.length ≤ maxLen) (hx : ∀ i (h : i < l.length), fitsRec l[i]) (m1 : a1.size ≤ maxLen) (m2 : a2.size ≤ maxLen) :
    Calls Try.prog 7 #[u, .string a1, .string a2] w fun e w' => e = .returned (.bool true) ∧ Below w.heap.size w w' := by
  unfold maxLen at m1 m2
  by_cases s1 : (a1.size : Int) ≤ 1048576
  · skip
    by_cases s2 : (a2.size : Int) ≤ 1048576
    · skip
      have K := Lib.hid (szRecs w u g o l 1048576 hu hl hx (by decide) (by decide))
      obtain ⟨a, cap, rfl, _⟩ := hu.form
      have HU := Lib.hid hu
      clear hu hx
      go_enter Try.func7, Try.ntmps7
      go_wp2_with fail
      refine K.out.mono ?_
      rintro e w1 ⟨z, rfl, hz, hb1⟩
      clear K
      rcases hz with ⟨rfl, _⟩ | ⟨hz0, hz1⟩
      · go_wp2
        go_ret
        exact ⟨rfl, hb1⟩
      · skip
        have hc : costRec l ≤ 1048576 := by omega
        have hll : l.length ≤ 1048576 := by unfold costRec at hc; omega
        have hz2 : z ≤ 1048576 := by omega
        have hzn : decide (z < 0) = false := by simp; omega
        have HU1 := Lib.hid (HU.out.over hb1)
        clear HU hz1
        have K1 := Lib.hid (fun (w : World) (v : Value) (g : Nat) (hI : RowsIs recS w v g 0 l) => lastOf_spec w v g 0 l hI.toRowsRd hc a1 a2 (by omega) (by omega))
        have K2 := Lib.hid (fun (w : World) (v : Value) (g : Nat) (hI : RowsIs recS w v g 0 l) => lastOf_impl w v g 0 l hI.toRowsRd hc a1 a2 (by omega) (by omega))
        generalize (lastOf l a1 a2) = r at *
        have hrr : (r != r) = false := by simp
        have hrr2 : (r == r) = true := by simp
        clear hc
        go_wp2_with fail
        refine (toRecs w1 _ g o l HU1.out hll).mono ?_
        rintro e w2 ⟨v2, g2, rfl, hI2, hg2, hb2⟩
        have hl2 : l ≠ [] → g2 < w2.heap.size := fun h => hI2.lt h
        have hB2 := hb1.trans (hb2.mono hb1.size)
        have HU2 := Lib.hid (HU1.out.over hb2)
        clear HU1 hb1
        clear hb2
        go_wp2_with fail
        refine (K1.out w2 v2 g2 hI2).mono ?_
        rintro e w3 ⟨rfl, hb3⟩
        have hB3 := hB2.trans (hb3.mono hB2.size)
        have HU3 := Lib.hid (HU2.out.over hb3)
        clear HU2 hB2 hb3 hI2 hg2 hl2
        go_wp2_with fail
        refine (toRecs w3 _ g o l HU3.out hll).mono ?_
        rintro e w4 ⟨v4, g4, rfl, hI4, hg4, hb4⟩
        have hl4 : l ≠ [] → g4 < w4.heap.size := fun h => hI4.lt h
        have hB4 := hB3.trans (hb4.mono hB3.size)
        have HU4 := Lib.hid (HU3.out.over hb4)
        clear HU3 hB3
        clear hb4
        go_wp2_with fail
        refine (K2.out w4 v4 g4 hI4).mono ?_
        rintro e w5 ⟨rfl, hb5⟩
        have hB5 := hB4.trans (hb5.mono hB4.size)
        have HU5 := Lib.hid (HU4.out.over hb5)
        have hI5 := hI4.over hb5
        clear HU4 hB4 hb5 hI4 hg4 hl4
        go_wp2_with fail
        refine (toRecs w5 _ g o l HU5.out hll).mono ?_
        rintro e w6 ⟨v6, g6, rfl, hI6, hg6, hb6⟩
        have hl6 : l ≠ [] → g6 < w6.heap.size := fun h => hI6.lt h
        have hB6 := hB5.trans (hb6.mono hB5.size)
        have HU6 := Lib.hid (HU5.out.over hb6)
        clear HU5 hB5
        have hI56 := hI5.over hb6
        clear hb6 hI5 hg6 hl6
        go_wp2_with fail
        refine (kit_eq_recs w6 v4 v6 g4 g6 l hI56 hI6 (by omega)).mono ?_
        rintro e w7 ⟨rfl, hb7⟩
        have hB7 := hB6.trans (hb7.mono hB6.size)
        clear hI56 hI6 hB6 hb7
        go_wp2
        go_ret
        exact ⟨rfl, hB7⟩
    · obtain ⟨a, cap, rfl, _⟩ := hu.form
      clear hu hx
      go_enter Try.func7, Try.ntmps7
      go_wp2
      go_ret
      exact ⟨rfl, Below.refl _ _⟩
  · obtain ⟨a, cap, rfl, _⟩ := hu.form
    clear hu hx
    go_enter Try.func7, Try.ntmps7
    go_wp2
    go_ret
    exact ⟨rfl, Below.refl _ _⟩

end Go.Proofs.Ytdkghalcnaogfaa
