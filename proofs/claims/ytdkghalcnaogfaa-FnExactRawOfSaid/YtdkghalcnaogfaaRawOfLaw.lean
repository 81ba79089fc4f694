/- The walk of the exact law of RawOf. -/
import Derived.Test.YtdkghalcnaogfaaProg
import Derived.Test.YtdkghalcnaogfaaPlain
import Derived.Test.YtdkghalcnaogfaaTexts
import Derived.Test.YtdkghalcnaogfaaRows0
import Derived.Test.YtdkghalcnaogfaaRecRows
import Derived.Test.YtdkghalcnaogfaaRecArg
import Derived.Test.YtdkghalcnaogfaaRecRaw
import Derived.WalkKit
import Derived.WalkLawsBesides
import Derived.Lib.Hide
import Derived.IntWalk
namespace Go.Proofs.Ytdkghalcnaogfaa
open Go.RowKit
set_option linter.unusedVariables false

set_option maxHeartbeats 1600000 in
theorem fnExactRawOf_walk (u : Value) (g o : Nat) (l : List RecD) (w : World) (hu : RowsRd recS w u g o l) (hl : l.length ≤ maxLen) (hx : ∀ i (h : i < l.length), fitsRec l[i]) :
    Calls Try.prog 5 #[u] w fun e w' => e = .returned (.bool true) ∧ Below w.heap.size w w' := by
  have K := Lib.hid (szRecs w u g o l 1048576 hu hl hx (by decide) (by decide))
  obtain ⟨a, cap, rfl, _⟩ := hu.form
  have HU := Lib.hid hu
  clear hu hx
  go_enter Try.func5, Try.ntmps5
  go_wp2_with fail
  refine K.out.mono ?_
  rintro e w1 ⟨z, rfl, hz, hb1⟩
  clear K
  rcases hz with ⟨rfl, _⟩ | ⟨hz0, hz1⟩
  · go_wp2
    go_ret
    exact ⟨rfl, hb1⟩
  · have hc : costRec l ≤ 1048576 := by omega
    have hll : l.length ≤ 1048576 := by unfold costRec at hc; omega
    have hz2 : z ≤ 1048576 := by omega
    have hzn : decide (z < 0) = false := by simp; omega
    have HU1 := Lib.hid (HU.out.below hb1 (fun h => HU.out.lt h))
    clear HU hz1
    have K1 := Lib.hid (fun (w : World) (v : Value) (g : Nat) (hI : RowsIs recS w v g 0 l) => rawOf_spec w v g 0 l hI.toRowsRd hc)
    have K2 := Lib.hid (fun (w : World) (v : Value) (g : Nat) (hI : RowsIs recS w v g 0 l) => rawOf_impl w v g 0 l hI.toRowsRd hc)
    generalize (⟨(rawB l).toArray⟩ : ByteArray) = r at *
    have hrr : (r.toList == r.toList) = true := by simp
    clear hc
    go_wp2_with fail
    refine (toRecs w1 _ g o l HU1.out hll).mono ?_
    rintro e w2 ⟨v2, g2, rfl, hI2, hg2, hb2⟩
    have hb2' := hb1.trans (hb2.mono hb1.size)
    have HU2 := Lib.hid (HU1.out.below hb2 (fun h => HU1.out.lt h))
    clear HU1 hb1 hb2
    go_wp2_with fail
    refine (K1.out w2 v2 g2 hI2).mono ?_
    rintro e w3 ⟨rfl, hb3⟩
    have hb3' := hb2'.trans (hb3.mono hb2'.size)
    have HU3 := Lib.hid (HU2.out.below hb3 (fun h => HU2.out.lt h))
    clear HU2 hb2' hb3 hI2 hg2
    go_wp2_with fail
    refine (toRecs w3 _ g o l HU3.out hll).mono ?_
    rintro e w4 ⟨v4, g4, rfl, hI4, hg4, hb4⟩
    have hb4' := hb3'.trans (hb4.mono hb3'.size)
    have HU4 := Lib.hid (HU3.out.below hb4 (fun h => HU3.out.lt h))
    clear HU3 hb3' hb4
    go_wp2_with fail
    refine (K2.out w4 v4 g4 hI4).mono ?_
    rintro e w5 ⟨rfl, hb5⟩
    have hb5' := hb4'.trans (hb5.mono hb4'.size)
    have HU5 := Lib.hid (HU4.out.below hb5 (fun h => HU4.out.lt h))
    have hI5 := hI4.below hb5 (fun h => hI4.lt h)
    clear HU4 hb4' hb5 hI4 hg4
    go_wp2_with fail
    refine (toRecs w5 _ g o l HU5.out hll).mono ?_
    rintro e w6 ⟨v6, g6, rfl, hI6, hg6, hb6⟩
    have hb6' := hb5'.trans (hb6.mono hb5'.size)
    have hI56 := hI5.below hb6 (fun h => hI5.lt h)
    clear HU5 hb5' hb6 hI5 hg6
    go_wp2_with fail
    refine (eqRecs w6 v4 v6 g4 0 g6 0 l l hI56.toRowsRd hI6.toRowsRd (by omega) (by omega)).mono ?_
    rintro e w7 ⟨rfl, hb7⟩
    rw [show decide (l = l) = true by simp]
    have hb7' := hb6'.trans (hb7.mono hb6'.size)
    clear hI56 hI6 hb6' hb7
    go_wp2
    go_ret
    exact ⟨rfl, hb7'⟩

end Go.Proofs.Ytdkghalcnaogfaa
