/- The walk of the exact law of TextOf. -/
import Derived.Test.YtffglpbjbocdiaaProg
import Derived.Test.YtffglpbjbocdiaaPlain
import Derived.Test.YtffglpbjbocdiaaInts
import Derived.Test.YtffglpbjbocdiaaTextOf
import Derived.WalkKit
import Derived.WalkLawsBesides
import Derived.Lib.Hide
import Derived.IntWalk
namespace Go.Proofs.Ytffglpbjbocdiaa
open Go.RowKit
set_option linter.unusedVariables false

theorem below_drewNI {B : Nat} {a w : World} (h : Below B a w) : ∀ q, Below B a (w.drewN q)
  | 0 => h
  | q + 1 => by
    rw [show w.drewN (q + 1) = (w.drewN q).drew from rfl]
    exact (below_drewNI h q).drew

theorem fnExactTextOf_walk (v0 : Value) (g0 o0 : Nat) (l0 : List Int) (w : World) (h0 : IntsRd w v0 g0 o0 l0) (b0 : l0.length ≤ maxLen) :
    Calls Try.prog 4 #[v0] w fun e w' => e = .returned (.bool true) ∧ Below w.heap.size w w' := by
  unfold maxLen at b0
  obtain ⟨a, cap, rfl, ha⟩ := h0.form
  have H0 := Lib.hid h0
  clear ha h0
  by_cases hl : (l0.length : Int) ≤ 1048576
  · have hl2 : Hid (l0.length ≤ 1048576) := by unfold Hid; omega
    obtain ⟨t, ok, hr⟩ : ∃ t ok, textRes l0 = .tuple #[.string t, .bool ok] := ⟨_, _, rfl⟩
    have HR := Lib.hid hr
    clear hr
    have ht : (t.toList != t.toList) = false := by simp
    have ho : (ok != ok) = false := by simp
    go_enter Try.func4, Try.ntmps4
    go_wp2_with fail
    refine (toInts w _ g0 o0 l0 H0.out hl2.out).mono ?_
    rintro e w1 ⟨v1, g1, rfl, hI1, hg1, hb1⟩
    go_wp2_with fail
    refine (textOf_spec w1 v1 g1 0 l0 hI1.toIntsRd hl2.out).mono ?_
    rintro e w2 ⟨rfl, hb2⟩
    rw [HR.out]
    have hb2' := hb1.trans (hb2.mono hb1.size)
    have H2 := Lib.hid (H0.out.over hb2')
    clear hI1 hb2 hb1
    go_wp2_with fail
    refine (toInts w2 _ g0 o0 l0 H2.out hl2.out).mono ?_
    rintro e w3 ⟨v3, g3, rfl, hI3, hg3, hb3⟩
    go_wp2_with fail
    refine (textOf_impl w3 v3 g3 0 l0 hI3.toIntsRd hl2.out).mono ?_
    rintro e w4 ⟨rfl, hb4⟩
    rw [HR.out]
    have hI4 := hI3.over hb4
    have H4 := Lib.hid ((H2.out.over hb3).over hb4)
    have hb4' := (hb2'.trans (hb3.mono hb2'.size)).trans (hb4.mono (by have := hb2'.size; have := hb3.size; omega))
    clear hI3 hb4 hb3 hb2'
    go_wp2_with fail
    refine (toInts w4 _ g0 o0 l0 H4.out hl2.out).mono ?_
    rintro e w5 ⟨v5, g5, rfl, hI5, hg5, hb5⟩
    have hI45 := hI4.over hb5
    have hb5' := hb4'.trans (hb5.mono hb4'.size)
    clear hI4 hb5 hb4'
    go_wp2_with fail
    refine (eqInts w5 v3 v5 g3 0 g5 0 l0 l0 hI45.toIntsRd hI5.toIntsRd (by have := hl2.out; omega) (by have := hl2.out; omega)).mono ?_
    rintro e w6 ⟨rfl, n6, rfl⟩
    rw [show decide (l0 = l0) = true by simp]
    have hb6 := below_drewNI hb5' n6
    clear hI45 hI5 hb5'
    go_wp2
    go_ret
    exact ⟨rfl, hb6⟩
  · go_enter Try.func4, Try.ntmps4
    go_wp2
    go_ret
    exact ⟨rfl, Below.refl _ _⟩

end Go.Proofs.Ytffglpbjbocdiaa
