/- The walk of the exact law of SplitLines. -/
import Derived.Test.YtikhanickkhnbaaProg
import Derived.Test.YtikhanickkhnbaaPlain
import Derived.Test.YtikhanickkhnbaaTexts
import Derived.Test.YtikhanickkhnbaaMarks
import Derived.Test.YtikhanickkhnbaaLines
import Derived.Test.YtikhanickkhnbaaLinesArg
import Derived.Test.YtikhanickkhnbaaSplitSpec
import Derived.Test.YtikhanickkhnbaaSplitImpl
import Derived.WalkKit
import Derived.WalkLawsBesides
import Derived.Lib.Hide
import Derived.IntWalk
namespace Go.Proofs.Ytikhanickkhnbaa
open Go.RowKit
set_option linter.unusedVariables false

theorem own_new {w : World} {l : List Ln} {e : Ending} {w' : World} (h : OwnLines w l e w') : NewLines w l e w' := by
  obtain ⟨v, he, hr, hb⟩ := h
  obtain ⟨g, hI, hg⟩ := linesIs_of_owns hr rfl hb.size
  exact ⟨v, g, he, hI, hg, hb⟩

set_option maxHeartbeats 1600000 in
theorem fnExactSplitLines_walk (a0 : ByteArray) (w0 : a0.size ≤ maxLen) (w : World) :
    Calls Try.prog 5 #[.string a0] w fun e w' => e = .returned (.bool true) ∧ Below w.heap.size w w' := by
  by_cases h0 : a0.size ≤ 1048576
  · have hL : (linesOf a0).length ≤ 1048576 := Nat.le_trans (linesOf_few a0) h0
    have K1 := Lib.hid (fun w => (splitLines_spec a0 w h0).mono (fun e w' h => own_new h))
    have K2 := Lib.hid (splitLines_impl a0 · h0)
    generalize linesOf a0 = l at *
    obtain ⟨q, hqq⟩ : ∃ q : Int, ((1 + l.length * 2 : Nat) : Int) = q := ⟨_, rfl⟩
    have hq0 : decide (q < 0) = false := by simp; omega
    have hq1 : (q != q) = false := by simp
    have HQ := Lib.hid hqq
    clear hqq
    go_enter Try.func5, Try.ntmps5
    go_wp2_with fail
    refine (K1.out _).mono ?_
    rintro e w1 ⟨v0, g0, rfl, hT0, hg0, hb1⟩
    have hlt0 : l ≠ [] → g0 < w1.heap.size := fun hl => hT0.lt hl
    go_wp2_with fail
    refine (K2.out _).mono ?_
    rintro e w2 ⟨vg, gg, rfl, hTg, hgg, hb2⟩
    replace hT0 := hT0.below hb2 hlt0
    have hb2' := hb1.trans (hb2.mono hb1.size)
    -- alike
    go_wp2_with fail
    refine (eqLines w2 vg v0 gg 0 g0 0 l l hTg.toLinesRd hT0.toLinesRd (by omega) (by omega)).mono ?_
    rintro e w3 ⟨rfl, hb3⟩
    rw [show decide (l = l) = true by simp]
    have hTg3 := hTg.below hb3 (fun hl => hTg.lt hl)
    have hT03 := hT0.below hb3 (fun hl => hT0.lt hl)
    have hb3' := hb2'.trans (hb3.mono hb2'.size)
    have hsz3 : w1.heap.size ≤ w3.heap.size := Nat.le_trans hb2.size hb3.size
    clear hTg hT0 hb2' hb2 hb3
    -- marked
    go_wp2_with fail
    refine (mark_lines w3 vg gg 0 1 l hTg3 (by decide) (by omega)).mono ?_
    rintro e w4 ⟨rfl, hTg4, hgr4⟩
    rw [HQ.out]
    have hT04 : LinesIs w4 v0 g0 0 l := hT03.kept (fun hl => hgr4.block g0 (hT03.lt hl) (by intro e; cases e; have := hlt0 hl; omega))
    have hb4 := hb3'.trans (below_of_grown (B := w.heap.size) hgr4 (by have := hb1.size; omega) hb3'.size)
    have hsz4 : w1.heap.size ≤ w4.heap.size := Nat.le_trans hsz3 hgr4.size
    clear hTg3 hT03 hb3' hgr4 hsz3
    -- held
    go_wp2_with fail
    refine (held_lines w4 vg gg 0 1 l.length hTg4 (by decide) (by omega)).mono ?_
    rintro e w5 ⟨rfl, hb5⟩
    rw [HQ.out]
    have hTg5 := hTg4.below hb5 (fun hl => hTg4.lt hl)
    have hT05 := hT04.below hb5 (fun hl => hT04.lt hl)
    have hb5' := hb4.trans (hb5.mono hb4.size)
    clear hTg4 hT04 hb4 hb5 hsz4
    -- asked again
    go_wp2_with fail
    refine (K2.out _).mono ?_
    rintro e w6 ⟨vh, gh, rfl, hTh, hgh, hb6⟩
    have hTg6 := hTg5.below hb6 (fun hl => hTg5.lt hl)
    have hT06 := hT05.below hb6 (fun hl => hT05.lt hl)
    have hb6' := hb5'.trans (hb6.mono hb5'.size)
    clear hTg5 hT05 hb5' hb6
    go_wp2_with fail
    refine (eqLines w6 vh v0 gh 0 g0 0 l l hTh.toLinesRd hT06.toLinesRd (by omega) (by omega)).mono ?_
    rintro e w7 ⟨rfl, hb7⟩
    rw [show decide (l = l) = true by simp]
    have hTg7 := hTg6.below hb7 (fun hl => hTg6.lt hl)
    have hb7' := hb6'.trans (hb7.mono hb6'.size)
    clear hTg6 hT06 hb6' hTh hb7
    go_wp2_with fail
    refine (held_lines w7 vg gg 0 1 l.length hTg7 (by decide) (by omega)).mono ?_
    rintro e w8 ⟨rfl, hb8⟩
    have hb8' := hb7'.trans (hb8.mono hb7'.size)
    rw [HQ.out]
    go_wp2
    go_ret
    exact ⟨rfl, hb8'⟩
  · go_enter Try.func5, Try.ntmps5
    go_wp2
    go_ret
    exact ⟨rfl, Below.refl _ _⟩

end Go.Proofs.Ytikhanickkhnbaa
