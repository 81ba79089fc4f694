/- The walk of the exact law of Signs. -/
import Derived.Test.YtffglpbjbocdiaaDoorProg
import Derived.Test.YtffglpbjbocdiaaDoorPlain
import Derived.Test.YtffglpbjbocdiaaDoorInts
import Derived.Test.YtffglpbjbocdiaaDoorSigns
import Derived.WalkKit
import Derived.WalkLawsBesides
import Derived.Lib.Hide
import Derived.IntWalk
namespace Go.Proofs.YtffglpbjbocdiaaDoor
open Go.RowKit
set_option linter.unusedVariables false

theorem drew_below {w : World} : ∀ q, Below w.heap.size w (w.drewN q)
  | 0 => Below.refl _ _
  | q + 1 => by
    rw [show w.drewN (q + 1) = (w.drewN q).drew from rfl]
    exact (drew_below q).drew

set_option maxHeartbeats 1600000 in
theorem fnExactSigns_walk (a0 : ByteArray) (w0 : a0.size ≤ maxLen) (w : World) (hT : TabsV w) :
    Calls Tryd.prog 6 #[.string a0] w fun e w' => e = .returned (.bool true) ∧ Below w.heap.size w w' := by
  unfold maxLen at w0
  by_cases h0 : (a0.size : Int) ≤ 1048576
  · have hs : a0.size ≤ 100000000 := by omega
    have hL : Hid ((signsI a0.data.toList).length ≤ 1048576) := by
      unfold Hid
      have := signsI_few a0.data.toList
      rw [← Lib.size_eq] at this
      omega
    have HT := Lib.hid hT
    have K1 := Lib.hid (signs_spec a0 hs)
    have K2 := Lib.hid (signs_impl a0 hs)
    clear hT hs
    generalize hl0 : signsI a0.data.toList = l at *
    generalize ho0 : signsO a0.data.toList = o at *
    have HL0 := Lib.hid hl0
    have HO0 := Lib.hid ho0
    clear hl0 ho0
    obtain ⟨q, hqq⟩ : ∃ q : Int, ((1 + l.length : Nat) : Int) = q := ⟨_, rfl⟩
    have hq0 : decide (q < 0) = false := by simp; omega
    have hq1 : (q != q) = false := by simp
    have hoo : (o != o) = false := by simp
    have HQ := Lib.hid hqq
    clear hqq
    go_enter Tryd.func6, Tryd.ntmps6
    go_wp2_with fail
    refine (K1.out _).mono ?_
    rintro e w1 ⟨v0, g0, rfl, hT0, hg0, hb1⟩
    rw [HL0.out] at hT0
    rw [HO0.out]
    have T1 := tabs_over HT.out hb1
    go_wp2_with fail
    refine (K2.out _ T1).mono ?_
    rintro e w2 ⟨vg, gg, rfl, hTg, hgg, hb2⟩
    rw [HL0.out] at hTg
    rw [HO0.out]
    have T2 := Lib.hid (tabs_over T1 hb2)
    have hlt0 : l ≠ [] → g0 < w1.heap.size := fun hl => hT0.lt hl
    replace hT0 := hT0.over hb2
    have hb2' := hb1.trans (hb2.mono hb1.size)
    clear T1
    -- alike
    go_wp2_with fail
    refine (eqInts w2 vg v0 gg 0 g0 0 l l hTg.toIntsRd hT0.toIntsRd (by have := hL.out; omega) (by have := hL.out; omega)).mono ?_
    rintro e w3 ⟨rfl, n3, rfl⟩
    rw [show decide (l = l) = true by simp]
    have hb3 : Below w2.heap.size w2 (w2.drewN n3) := drew_below n3
    have hTg3 := hTg.over hb3
    have hT03 := hT0.over hb3
    have T3 := Lib.hid (tabs_over T2.out hb3)
    have hb3' := hb2'.trans (hb3.mono hb2'.size)
    have hsz3 : w1.heap.size ≤ (w2.drewN n3).heap.size := Nat.le_trans hb2.size hb3.size
    generalize w2.drewN n3 = w3 at *
    clear hTg hT0 hb2' hb2 hb3 T2
    -- marked
    go_wp2_with fail
    refine (mark_ints w3 vg gg 1 l hTg3 (by decide) (by have := hL.out; omega)).mono ?_
    rintro e w4 ⟨rfl, hTg4, hgr4⟩
    rw [HQ.out]
    have hT04 : IntsIs w4 v0 g0 0 l := hT03.kept (fun hl => hgr4.block g0 (hT03.lt hl) (by intro e; cases e; have := hlt0 hl; omega))
    have hb43 : Below w.heap.size w3 w4 := below_of_grownI hgr4 (by have := hb1.size; omega) hb3'.size
    have hb4 := hb3'.trans hb43
    have hsz4 : w1.heap.size ≤ w4.heap.size := Nat.le_trans hsz3 hgr4.size
    clear hTg3 hT03 hgr4 hsz3 T3
    have T4 : Hid (TabsV w4) := tabs_over HT.out hb4
    clear hb3' hb43
    -- held
    go_wp2_with fail
    refine (held_ints w4 vg gg 1 l.length hTg4 (by decide) (by have := hL.out; omega)).mono ?_
    rintro e w5 ⟨rfl, n5, rfl⟩
    rw [HQ.out]
    have hb5 : Below w4.heap.size w4 (w4.drewN n5) := drew_below n5
    have hTg5 := hTg4.over hb5
    have hT05 := hT04.over hb5
    have hb5' := hb4.trans (hb5.mono hb4.size)
    have T5 := Lib.hid (tabs_over T4.out hb5)
    generalize w4.drewN n5 = w5 at *
    clear hTg4 hT04 hb4 hb5 hsz4 T4
    -- asked again
    go_wp2_with fail
    refine (K2.out _ T5.out).mono ?_
    rintro e w6 ⟨vh, gh, rfl, hTh, hgh, hb6⟩
    rw [HL0.out] at hTh
    rw [HO0.out]
    have hTg6 := hTg5.over hb6
    have hT06 := hT05.over hb6
    have hb6' := hb5'.trans (hb6.mono hb5'.size)
    clear hTg5 hT05 hb5' hb6 T5
    go_wp2_with fail
    refine (eqInts w6 vh v0 gh 0 g0 0 l l hTh.toIntsRd hT06.toIntsRd (by have := hL.out; omega) (by have := hL.out; omega)).mono ?_
    rintro e w7 ⟨rfl, n7, rfl⟩
    rw [show decide (l = l) = true by simp]
    have hb7 : Below w6.heap.size w6 (w6.drewN n7) := drew_below n7
    have hTg7 := hTg6.over hb7
    have hb7' := hb6'.trans (hb7.mono hb6'.size)
    generalize w6.drewN n7 = w7 at *
    clear hTg6 hT06 hb6' hTh hb7
    go_wp2_with fail
    refine (held_ints w7 vg gg 1 l.length hTg7 (by decide) (by have := hL.out; omega)).mono ?_
    rintro e w8 ⟨rfl, n8, rfl⟩
    have hb8 : Below w7.heap.size w7 (w7.drewN n8) := drew_below n8
    have hb8' := hb7'.trans (hb8.mono hb7'.size)
    rw [HQ.out]
    go_wp2
    go_ret
    exact ⟨rfl, hb8'⟩
  · go_enter Tryd.func6, Tryd.ntmps6
    go_wp2
    go_ret
    exact ⟨rfl, Below.refl _ _⟩

end Go.Proofs.YtffglpbjbocdiaaDoor
