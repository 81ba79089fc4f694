/- The walk of the exact law of Words. -/
import Derived.Test.YtkhcdopnohbieaaProg
import Derived.Test.YtkhcdopnohbieaaPlain
import Derived.Test.YtkhcdopnohbieaaTexts
import Derived.Test.YtkhcdopnohbieaaMarks
import Derived.Test.YtkhcdopnohbieaaSplit
import Derived.Test.YtkhcdopnohbieaaIter
import Derived.Test.YtkhcdopnohbieaaWords
import Derived.WalkKit
import Derived.WalkLawsBesides
import Derived.Lib.Hide
import Derived.IntWalk
namespace Go.Proofs.Ytkhcdopnohbieaa
open Go.RowKit
set_option linter.unusedVariables false

set_option maxHeartbeats 1600000 in
theorem fnExactWords_walk (a0 : ByteArray) (w0 : a0.size ≤ maxLen) (w : World) :
    Calls Try.prog 11 #[.string a0] w fun e w' => e = .returned (.bool true) ∧ Below w.heap.size w w' := by
  by_cases h0 : a0.size ≤ 1048576
  · have hL : (wordsOf a0).length ≤ 1048577 := by have := wordsOf_len a0; omega
    have K1 := Lib.hid (words_spec a0 · h0)
    have K2 := Lib.hid (words_impl a0 · h0)
    generalize wordsOf a0 = l at *
    obtain ⟨q, hqq⟩ : ∃ q : Int, ((1 + l.length : Nat) : Int) = q := ⟨_, rfl⟩
    have hq0 : decide (q < 0) = false := by simp; omega
    have hq1 : (q != q) = false := by simp
    have HQ := Lib.hid hqq
    clear hqq
    go_enter Try.func11, Try.ntmps11
    go_wp2_with fail
    refine (K1.out _).mono ?_
    rintro e w1 ⟨v0, rfl, hr0, hb1⟩
    obtain ⟨g0, hT0, hg0⟩ := textsIs_of_owns hr0 rfl hb1.size
    have hlt0 : l ≠ [] → g0 < w1.heap.size := fun hl => hT0.lt hl
    clear hr0
    go_wp2_with fail
    refine (K2.out _).mono ?_
    rintro e w2 ⟨vg, rfl, hrg, hb2⟩
    obtain ⟨gg, hTg, hgg⟩ := textsIs_of_owns hrg rfl hb2.size
    replace hT0 := hT0.below hb2 hlt0
    have hb2' := hb1.trans (hb2.mono hb1.size)
    clear hrg
    -- alike
    go_wp2_with fail
    refine (eqTexts w2 vg v0 gg g0 l l hTg hT0 (by omega) (by omega)).mono ?_
    rintro e w3 ⟨rfl, n3, rfl⟩
    rw [show decide (l = l) = true by simp]
    have hTg3 : TextsIs (w2.drewN n3) vg gg l := hTg.kept (fun _ => rfl)
    have hT03 : TextsIs (w2.drewN n3) v0 g0 l := hT0.kept (fun _ => rfl)
    have hb3 := below_drewN hb2' n3
    have hsz3 : w1.heap.size ≤ (w2.drewN n3).heap.size := hb2.size
    clear hTg hT0 hb2' hb2
    generalize w2.drewN n3 = w3 at *
    -- marked
    go_wp2_with fail
    refine (mark_texts w3 vg gg 1 l hTg3 (by decide) (by omega)).mono ?_
    rintro e w4 ⟨rfl, hTg4, hgr4⟩
    rw [HQ.out]
    have hT04 : TextsIs w4 v0 g0 l := hT03.kept (fun hl => hgr4.block g0 (hT03.lt hl) (by intro e; cases e; have := hlt0 hl; omega))
    have hb4 := hb3.trans (below_of_grown (B := w.heap.size) hgr4 (by have := hb1.size; omega) hb3.size)
    have hsz4 : w1.heap.size ≤ w4.heap.size := Nat.le_trans hsz3 hgr4.size
    clear hTg3 hT03 hb3 hgr4 hsz3
    -- held
    go_wp2_with fail
    refine (held_texts w4 vg gg 1 l.length hTg4 (by decide) (by omega)).mono ?_
    rintro e w5 ⟨rfl, hb5⟩
    rw [HQ.out]
    have hTg5 := hTg4.below hb5 (fun hl => hTg4.lt hl)
    have hT05 := hT04.below hb5 (fun hl => hT04.lt hl)
    have hb5' := hb4.trans (hb5.mono hb4.size)
    have hsz5 : w1.heap.size ≤ w5.heap.size := Nat.le_trans hsz4 hb5.size
    clear hTg4 hT04 hb4 hb5 hsz4
    -- asked again
    go_wp2_with fail
    refine (K2.out _).mono ?_
    rintro e w6 ⟨vh, rfl, hrh, hb6⟩
    obtain ⟨gh, hTh, hgh⟩ := textsIs_of_owns hrh rfl hb6.size
    have hTg6 := hTg5.below hb6 (fun hl => hTg5.lt hl)
    have hT06 := hT05.below hb6 (fun hl => hT05.lt hl)
    have hb6' := hb5'.trans (hb6.mono hb5'.size)
    clear hTg5 hT05 hb5' hb6 hrh
    go_wp2_with fail
    refine (eqTexts w6 vh v0 gh g0 l l hTh hT06 (by omega) (by omega)).mono ?_
    rintro e w7 ⟨rfl, n7, rfl⟩
    rw [show decide (l = l) = true by simp]
    have hTg7 : TextsIs (w6.drewN n7) vg gg (marks 1 l.length) := hTg6.kept (fun _ => rfl)
    have hb7 := below_drewN hb6' n7
    clear hTg6 hT06 hb6' hTh
    generalize w6.drewN n7 = w7 at *
    go_wp2_with fail
    refine (held_texts w7 vg gg 1 l.length hTg7 (by decide) (by omega)).mono ?_
    rintro e w8 ⟨rfl, hb8⟩
    have hb8' := hb7.trans (hb8.mono hb7.size)
    rw [HQ.out]
    go_wp2
    go_ret
    exact ⟨rfl, hb8'⟩
  · go_enter Try.func11, Try.ntmps11
    go_wp2
    go_ret
    exact ⟨rfl, Below.refl _ _⟩

end Go.Proofs.Ytkhcdopnohbieaa
