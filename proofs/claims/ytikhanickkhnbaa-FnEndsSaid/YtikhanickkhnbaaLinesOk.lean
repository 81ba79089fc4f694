/- The contracts of LinesOk, the model's and the program's. -/
import Derived.Test.YtikhanickkhnbaaProg
import Derived.Test.YtikhanickkhnbaaPlain
import Derived.Test.YtikhanickkhnbaaTexts
import Derived.Test.YtikhanickkhnbaaLines
import Derived.Test.YtikhanickkhnbaaLinesArg
import Derived.Test.YtikhanickkhnbaaLinesPure
import Derived.Test.YtikhanickkhnbaaLinesEq
import Derived.Test.YtikhanickkhnbaaSplitSpec
import Derived.Test.YtikhanickkhnbaaSplitImpl
import Derived.Test.YtikhanickkhnbaaLinesLaw
import Derived.Test.YtikhanickkhnbaaJoin
import Derived.WalkKit
import Derived.WalkLawsBesides
import Derived.BigQuiet
import Derived.Deep.QuietTactic
import Derived.Lib.Hide
import Derived.IntWalk
namespace Go.Proofs.Ytikhanickkhnbaa
open Go.RowKit Go.Sort
set_option linter.unusedVariables false

def joinT (l : List Ln) : ByteArray := ⟨(joinB l).toArray⟩
theorem joinT_size (l : List Ln) : (joinT l).size ≤ costL l := by
  have := joinB_len l
  show (joinB l).toArray.size ≤ _
  rw [List.size_toArray]
  omega
/-- whether lines are those of a file -/
def linesOkB (l : List Ln) : Bool := decide (linesOf (joinT l) = l)

set_option maxHeartbeats 1600000 in
theorem linesOk_impl (w : World) (u : Value) (g o : Nat) (l : List Ln) (hu : LinesRd w u g o l) (hl : costL l ≤ 1048576) (hg : l ≠ [] → g < w.heap.size) :
    Calls Try.prog 11 #[u] w fun e w' => e = .returned (.bool (linesOkB l)) ∧ Below w.heap.size w w' := by
  obtain ⟨a, cap, rfl, _⟩ := hu.form
  have hll : l.length ≤ 1048576 := by unfold costL at hl; omega
  have hs := Nat.le_trans (joinT_size l) hl
  have hfew := Nat.le_trans (linesOf_few (joinT l)) hs
  have K1 := Lib.hid (joinLines_impl w _ g o l hu hl hg)
  have K2 := Lib.hid (fun w => splitLines_impl (joinT l) w hs)
  have HD : Hid (linesOkB l = decide (linesOf (joinT l) = l)) := rfl
  have hj : (⟨(joinB l).toArray⟩ : ByteArray) = joinT l := rfl
  rw [hj] at K1
  clear hj
  generalize linesOf (joinT l) = m at *
  generalize joinT l = t at *
  have HU := Lib.hid hu
  clear hu
  go_enter Try.func11, Try.ntmps11
  go_wp2_with fail
  refine K1.out.mono ?_
  rintro e w1 ⟨rfl, hb1⟩
  have HU1 := Lib.hid (HU.out.below hb1 (fun h => hg h))
  have hg1 : l ≠ [] → g < w1.heap.size := fun h => Nat.lt_of_lt_of_le (hg h) hb1.size
  clear HU K1 hg
  go_wp2_with fail
  refine (K2.out _).mono ?_
  rintro e w2 ⟨v2, g2, rfl, hI2, hg2, hb2⟩
  have HU2 := Lib.hid (HU1.out.below hb2 (fun h => hg1 h))
  have hb2' := hb1.trans (hb2.mono hb1.size)
  clear HU1 K2 hb1 hb2 hg1
  go_wp2_with fail
  refine (equalLines w2 v2 _ g2 0 g o m l hI2.toLinesRd HU2.out (by omega) (by omega)).mono ?_
  rintro e w3 ⟨rfl, n, rfl⟩
  have hb3 := below_drewN hb2' n
  clear hb2' hI2 HU2
  rw [← HD.out]
  go_wp2
  go_ret
  exact ⟨rfl, hb3⟩

set_option maxHeartbeats 1600000 in
theorem linesOk_spec (w : World) (u : Value) (g o : Nat) (l : List Ln) (hu : LinesRd w u g o l) (hl : costL l ≤ 1048576) (hg : l ≠ [] → g < w.heap.size) :
    Calls Try.prog 12 #[u] w fun e w' => e = .returned (.bool (linesOkB l)) ∧ Below w.heap.size w w' := by
  obtain ⟨a, cap, rfl, ha⟩ := hu.form
  have hll : l.length ≤ 1048576 := by unfold costL at hl; omega
  have hs := Nat.le_trans (joinT_size l) hl
  have hfew := Nat.le_trans (linesOf_few (joinT l)) hs
  have K1 := Lib.hid (joinLines_spec w _ g o l hu hl hg)
  have K2 := Lib.hid (fun w => (splitLines_spec (joinT l) w hs).mono (fun e w' h => own_new h))
  have HD : Hid (linesOkB l = decide (linesOf (joinT l) = l)) := rfl
  have hj : (⟨(joinB l).toArray⟩ : ByteArray) = joinT l := rfl
  rw [hj] at K1
  clear hj
  generalize linesOf (joinT l) = m at *
  generalize joinT l = t at *
  have HU := Lib.hid hu
  have HA := Lib.hid ha
  clear hu ha
  go_enter Try.func12, Try.ntmps12
  go_wp2_with fail
  refine K1.out.mono ?_
  rintro e w1 ⟨rfl, hb1⟩
  have HU1 := Lib.hid (HU.out.below hb1 (fun h => hg h))
  have hg1 : l ≠ [] → g < w1.heap.size := fun h => Nat.lt_of_lt_of_le (hg h) hb1.size
  clear HU K1 hg
  go_wp2_with fail
  refine (K2.out _).mono ?_
  rintro e w2 ⟨v2, g2, rfl, hI2, hg2, hb2⟩
  have CU := Lib.hid (HU1.out.below hb2 (fun h => hg1 h))
  have hb2' := hb1.trans (hb2.mono hb1.size)
  clear HU1 K2 hb1 hb2 hg1
  obtain ⟨b, cap', rfl, hb⟩ := hI2.form
  have CV := Lib.hid hI2.toLinesRd
  have HB := Lib.hid hb
  clear hI2 hb
  have hgd : Try.prog.eqGuardType Try.prog.depth 31 = false := by kernel_rfl
  by_cases hlen : m.length = l.length
  · have hne : ((m.length : Int) != (l.length : Int)) = false := by simp [hlen]
    have HL := Lib.hid hlen
    clear hlen
    go_wp2
    go_loopw [4] (fun i wr => ∃ k n : Nat, k ≤ l.length ∧ i = .int .i64 k ∧ wr = w2.drewN n ∧ Hid (m.take k = l.take k)) (fun i wr => l.length - (intOf i).toNat)
    case atStart => exact ⟨0, 0, Nat.zero_le _, rfl, rfl, rfl⟩
    case round =>
      obtain ⟨k, n, hk, rfl, rfl, ht⟩ := hrel
      by_cases hlt : k < l.length
      · have hltm : k < m.length := by rw [HL.out]; exact hlt
        have hln : l ≠ [] := by intro e; subst e; simp at hlt
        have hmn : m ≠ [] := by intro e; subst e; simp at hltm
        obtain rfl := HA.out hln
        obtain rfl := HB.out hmn
        have q1 := CU.out.c0 k hlt
        have q2 := CU.out.c1 k hlt
        have q3 := CV.out.c0 k hltm
        have q4 := CV.out.c1 k hltm
        simp only [Nat.zero_add] at q3 q4
        have hjn : (k : Int) < (l.length : Int) := by omega
        have hjm : (k : Int) < (m.length : Int) := by omega
        have hnq := neq_line m[k] l[k]
        by_cases heq : m[k] = l[k]
        · have ht2 : Hid (m.take (k + 1) = l.take (k + 1)) := by
            unfold Hid
            rw [List.take_succ_eq_append_getElem hlt, List.take_succ_eq_append_getElem hltm, ht.out, heq]
          rw [show decide (m[k] = l[k]) = true by simpa using heq] at hnq
          generalize l[k] = x at *
          generalize m[k] = y at *
          obtain ⟨x1, x2⟩ := x
          obtain ⟨y1, y2⟩ := y
          simp only [lnV, Bool.not_true] at hnq
          clear heq
          go_wp2_with fail
          go_quiet (fail)
          go_wp2
          go_roundw
          case rel => exact ⟨k + 1, n + nq, by omega, by go_num, by simp, ht2⟩
          case measure => simp [intOf]; omega
        · have HD2 : Hid (linesOkB l = false) := by
            unfold Hid
            rw [HD.out, decide_eq_false_iff_not]
            intro e
            subst e
            exact heq rfl
          rw [show decide (m[k] = l[k]) = false by simpa using heq] at hnq
          generalize l[k] = x at *
          generalize m[k] = y at *
          obtain ⟨x1, x2⟩ := x
          obtain ⟨y1, y2⟩ := y
          simp only [lnV, Bool.not_false] at hnq
          clear heq ht
          have hb3 := below_drewN hb2' n
          go_wp2_with fail
          go_quiet (fail)
          have hb4 := below_drewN hb3 nq
          go_wp2
          go_ret
          exact ⟨by rw [HD2.out]; rfl, hb4⟩
      · have HD2 : Hid (linesOkB l = true) := by
          unfold Hid
          rw [HD.out, decide_eq_true_iff]
          have e := ht.out
          rw [List.take_of_length_le (by rw [HL.out]; omega), List.take_of_length_le (by omega)] at e
          exact e
        clear ht
        have hb3 := below_drewN hb2' n
        go_wp2
        go_ret
        exact ⟨by rw [HD2.out]; rfl, hb3⟩
  · have hne : ((m.length : Int) != (l.length : Int)) = true := by rw [bne_iff_ne]; omega
    have HD2 : Hid (linesOkB l = false) := by
      unfold Hid
      rw [HD.out, decide_eq_false_iff_not]
      intro e
      exact hlen (congrArg List.length e)
    clear hlen
    go_wp2
    go_ret
    exact ⟨by rw [HD2.out]; rfl, hb2'⟩

end Go.Proofs.Ytikhanickkhnbaa
