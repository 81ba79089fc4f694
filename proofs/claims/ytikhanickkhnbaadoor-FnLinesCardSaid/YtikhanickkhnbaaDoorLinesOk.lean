/- The contracts of LinesOk, the model's and the program's. -/
import Derived.Test.YtikhanickkhnbaaDoorProg
import Derived.Test.YtikhanickkhnbaaDoorPlain
import Derived.Test.YtikhanickkhnbaaDoorTexts
import Derived.Test.YtikhanickkhnbaaDoorLines
import Derived.Test.YtikhanickkhnbaaDoorLinesArg
import Derived.Test.YtikhanickkhnbaaDoorLinesPure
import Derived.Test.YtikhanickkhnbaaDoorLinesEq
import Derived.Test.YtikhanickkhnbaaDoorSplitSpec
import Derived.Test.YtikhanickkhnbaaDoorSplitImpl
import Derived.Test.YtikhanickkhnbaaDoorLinesLaw
import Derived.Test.YtikhanickkhnbaaDoorJoin
import Derived.WalkKit
import Derived.WalkLawsBesides
import Derived.BigQuiet
import Derived.Deep.QuietTactic
import Derived.Lib.Hide
import Derived.IntWalk
namespace Go.Proofs.YtikhanickkhnbaaDoor
open Go.RowKit Go.Sort
set_option linter.unusedVariables false

def joinT (l : List Ln) : ByteArray := ⟨(joinB l).toArray⟩
theorem joinT_size (l : List Ln) : (joinT l).size ≤ costL l := by
  have := joinB_len l
  show (joinB l).toArray.size ≤ _
  rw [List.size_toArray]
  omega
/-- whether lines are those of a file -/
def linesOkB (l : List Ln) : Bool := decide (linesOf (joinT l) = l)

set_option maxHeartbeats 1600000 in
theorem linesOk_impl (w : World) (u : Value) (g o : Nat) (l : List Ln) (hu : LinesRd w u g o l) (hl : costL l ≤ 1048576) (hg : l ≠ [] → g < w.heap.size) :
    Calls Tryd.prog 12 #[u] w fun e w' => e = .returned (.bool (linesOkB l)) ∧ Below w.heap.size w w' := by
  obtain ⟨a, cap, rfl, _⟩ := hu.form
  have hll : l.length ≤ 1048576 := by unfold costL at hl; omega
  have hs := Nat.le_trans (joinT_size l) hl
  have hfew := Nat.le_trans (linesOf_few (joinT l)) hs
  have K1 := Lib.hid (joinLines_impl w _ g o l hu hl hg)
  have K2 := Lib.hid (fun w => splitLines_impl (joinT l) w hs)
  have HD : Hid (linesOkB l = decide (linesOf (joinT l) = l)) := rfl
  have hj : (⟨(joinB l).toArray⟩ : ByteArray) = joinT l := rfl
  rw [hj] at K1
  clear hj
  generalize linesOf (joinT l) = m at *
  generalize joinT l = t at *
  have HU := Lib.hid hu
  clear hu
  go_enter Tryd.func12, Tryd.ntmps12
  go_wp2_with fail
  refine K1.out.mono ?_
  rintro e w1 ⟨rfl, hb1⟩
  have HU1 := Lib.hid (HU.out.below hb1 (fun h => hg h))
  have hg1 : l ≠ [] → g < w1.heap.size := fun h => Nat.lt_of_lt_of_le (hg h) hb1.size
  clear HU K1 hg
  go_wp2_with fail
  refine (K2.out _).mono ?_
  rintro e w2 ⟨v2, g2, rfl, hI2, hg2, hb2⟩
  have HU2 := Lib.hid (HU1.out.below hb2 (fun h => hg1 h))
  have hb2' := hb1.trans (hb2.mono hb1.size)
  clear HU1 K2 hb1 hb2 hg1
  go_wp2_with fail
  refine (equalLines w2 v2 _ g2 0 g o m l hI2.toLinesRd HU2.out (by omega) (by omega)).mono ?_
  rintro e w3 ⟨rfl, n, rfl⟩
  have hb3 := below_drewN hb2' n
  clear hb2' hI2 HU2
  rw [← HD.out]
  go_wp2
  go_ret
  exact ⟨rfl, hb3⟩

end Go.Proofs.YtikhanickkhnbaaDoor
