/- Lists of lines held against each other, by the laws and by the library. -/
import Derived.Test.YtikhanickkhnbaaDoorProg
import Derived.Test.YtikhanickkhnbaaDoorPlain
import Derived.Test.YtikhanickkhnbaaDoorDec
import Derived.Test.YtikhanickkhnbaaDoorTexts
import Derived.Test.YtikhanickkhnbaaDoorLines
import Derived.WalkKit
import Derived.WalkLawsBesides
import Derived.BigQuiet
import Derived.Deep.QuietTactic
import Derived.Laws.StructEq
import Derived.Laws.IdiomStrings
import Derived.Lib.Hide
import Derived.IntWalk
namespace Go.Proofs.YtikhanickkhnbaaDoor
open Go.RowKit Go.Sort
set_option linter.unusedVariables false

theorem toList_same (x y : ByteArray) : x.toList = y.toList ↔ x = y :=
  ⟨fun e => by rw [Lib.toList_data, Lib.toList_data] at e; exact ByteArray.ext (Array.toList_inj.1 e), fun e => by rw [e]⟩
theorem neq_line (x y : Ln) : ∀ w, (binOp .neq 31 (lnV x) (lnV y)).run Tryd.prog w = .ok (.bool (!decide (x = y))) w := by
  intro w
  obtain ⟨a, b⟩ := x
  obtain ⟨c, d⟩ := y
  have u9 := Tryd.underlying9
  have a9 := Tryd.isAgg9
  have z9 := Tryd.sizeOf9
  have hS : Tryd.prog.underlying 31 = some (.struct (Tryd.prog.fieldsOf 31)) := by kernel_rfl
  have hp : Tryd.prog.stoodInHeld 31 = false := by kernel_rfl
  simp only [lnV]
  rw [run_neq_struct, show (10000 : Nat) = 9999 + 1 from rfl, run_equalIn_agg w 9999 31 _ _ hS hp]
  simp only [Program.fieldsOf, Tryd.underlying31]
  go_simp
  simp only [toList_same]
  by_cases h1 : a = c <;> by_cases h2 : b = d <;> simp [h1, h2]

set_option maxHeartbeats 1600000 in
theorem sameLines_any (w : World) (u v : Value) (g o g' o' : Nat) (l m : List Ln) (hu : LinesRd w u g o l) (hv : LinesRd w v g' o' m) (hl : l.length ≤ 9223372036854775806) (hm : m.length ≤ 9223372036854775806) :
    Calls Tryd.prog 10 #[u, v] w fun e w' => e = .returned (.bool (decide (l = m))) ∧ ∃ n, w' = w.drewN n := by
  by_cases hlen : l.length = m.length
  · obtain ⟨a, cap, rfl, ha⟩ := hu.form
    obtain ⟨b, cap', rfl, hb⟩ := hv.form
    have hne : ((l.length : Int) != (m.length : Int)) = false := by simp [hlen]
    have hgd : Tryd.prog.eqGuardType Tryd.prog.depth 31 = false := by kernel_rfl
    have HL := Lib.hid hlen
    have CU := Lib.hid hu
    have CV := Lib.hid hv
    have HA := Lib.hid ha
    have HB := Lib.hid hb
    clear hlen hu hv ha hb
    go_enter Tryd.func10, Tryd.ntmps10
    go_wp2
    go_loopw [5] (fun i wr => ∃ k n : Nat, k ≤ l.length ∧ i = .int .i64 k ∧ wr = w.drewN n ∧ Hid (l.take k = m.take k)) (fun i wr => l.length - (intOf i).toNat)
    case atStart => exact ⟨0, 0, Nat.zero_le _, rfl, rfl, rfl⟩
    case round =>
      obtain ⟨k, n, hk, rfl, rfl, ht⟩ := hrel
      by_cases hlt : k < l.length
      · have hltm : k < m.length := by rw [← HL.out]; exact hlt
        have hln : l ≠ [] := by intro e; subst e; simp at hlt
        have hmn : m ≠ [] := by intro e; subst e; simp at hltm
        obtain rfl := HA.out hln
        obtain rfl := HB.out hmn
        have q1 := CU.out.c0 k hlt
        have q2 := CU.out.c1 k hlt
        have q3 := CV.out.c0 k hltm
        have q4 := CV.out.c1 k hltm
        have hjn : (k : Int) < (l.length : Int) := by omega
        have hjm : (k : Int) < (m.length : Int) := by omega
        have hnq := neq_line l[k] m[k]
        by_cases heq : l[k] = m[k]
        · have ht2 : Hid (l.take (k + 1) = m.take (k + 1)) := by
            unfold Hid
            rw [List.take_succ_eq_append_getElem hlt, List.take_succ_eq_append_getElem hltm, ht.out, heq]
          rw [show decide (l[k] = m[k]) = true by simpa using heq] at hnq
          generalize l[k] = x at *
          generalize m[k] = y at *
          obtain ⟨x1, x2⟩ := x
          obtain ⟨y1, y2⟩ := y
          simp only [lnV, Bool.not_true] at hnq
          clear heq
          go_wp2_with fail
          go_quiet (fail)
          go_wp2
          go_roundw
          case rel => exact ⟨k + 1, n + nq, by omega, by go_num, by simp, ht2⟩
          case measure => simp [intOf]; omega
        · have HD : Hid (decide (l = m) = false) := by
            unfold Hid
            rw [decide_eq_false_iff_not]
            intro e
            subst e
            exact heq rfl
          rw [show decide (l[k] = m[k]) = false by simpa using heq] at hnq
          generalize l[k] = x at *
          generalize m[k] = y at *
          obtain ⟨x1, x2⟩ := x
          obtain ⟨y1, y2⟩ := y
          simp only [lnV, Bool.not_false] at hnq
          clear heq ht
          go_wp2_with fail
          go_quiet (fail)
          go_wp2
          go_ret
          exact ⟨by rw [HD.out]; rfl, _, by rw [World.drewN_drewN]⟩
      · have HD : Hid (decide (l = m) = true) := by
          unfold Hid
          rw [decide_eq_true_iff]
          have e := ht.out
          rw [List.take_of_length_le (by omega), List.take_of_length_le (by rw [← HL.out]; omega)] at e
          exact e
        clear ht
        go_wp2
        go_ret
        exact ⟨by rw [HD.out]; rfl, n, rfl⟩
  · obtain ⟨a, cap, rfl, ha⟩ := hu.form
    obtain ⟨b, cap', rfl, hb⟩ := hv.form
    have hne : ((l.length : Int) != (m.length : Int)) = true := by rw [bne_iff_ne]; omega
    have HD : Hid (decide (l = m) = false) := by
      unfold Hid
      rw [decide_eq_false_iff_not]
      intro e
      exact hlen (congrArg List.length e)
    clear hlen ha hb hu hv
    go_enter Tryd.func10, Tryd.ntmps10
    go_wp2
    go_ret
    exact ⟨by rw [HD.out]; rfl, 0, rfl⟩

set_option maxHeartbeats 1600000 in
theorem equalLines (w : World) (u v : Value) (g o g' o' : Nat) (l m : List Ln) (hu : LinesRd w u g o l) (hv : LinesRd w v g' o' m) (hl : l.length ≤ 9223372036854775806) (hm : m.length ≤ 9223372036854775806) :
    Calls Tryd.prog 21 #[u, v] w fun e w' => e = .returned (.bool (decide (l = m))) ∧ ∃ n, w' = w.drewN n := by
  by_cases hlen : l.length = m.length
  · obtain ⟨a, cap, rfl, ha⟩ := hu.form
    obtain ⟨b, cap', rfl, hb⟩ := hv.form
    have hne : ((l.length : Int) != (m.length : Int)) = false := by simp [hlen]
    have hgd : Tryd.prog.eqGuardType Tryd.prog.depth 31 = false := by kernel_rfl
    have HL := Lib.hid hlen
    have CU := Lib.hid hu
    have CV := Lib.hid hv
    have HA := Lib.hid ha
    have HB := Lib.hid hb
    clear hlen hu hv ha hb
    go_enter Tryd.func21, Tryd.ntmps21
    go_wp2
    go_loopw [13] (fun i wr => ∃ k n : Nat, k ≤ l.length ∧ i = .int .i64 k ∧ wr = w.drewN n ∧ Hid (l.take k = m.take k)) (fun i wr => l.length - (intOf i).toNat)
    case atStart => exact ⟨0, 0, Nat.zero_le _, rfl, rfl, rfl⟩
    case round =>
      obtain ⟨k, n, hk, rfl, rfl, ht⟩ := hrel
      by_cases hlt : k < l.length
      · have hltm : k < m.length := by rw [← HL.out]; exact hlt
        have hln : l ≠ [] := by intro e; subst e; simp at hlt
        have hmn : m ≠ [] := by intro e; subst e; simp at hltm
        obtain rfl := HA.out hln
        obtain rfl := HB.out hmn
        have q1 := CU.out.c0 k hlt
        have q2 := CU.out.c1 k hlt
        have q3 := CV.out.c0 k hltm
        have q4 := CV.out.c1 k hltm
        have hjn : (k : Int) < (l.length : Int) := by omega
        have hjm : (k : Int) < (m.length : Int) := by omega
        have hnq := neq_line l[k] m[k]
        by_cases heq : l[k] = m[k]
        · have ht2 : Hid (l.take (k + 1) = m.take (k + 1)) := by
            unfold Hid
            rw [List.take_succ_eq_append_getElem hlt, List.take_succ_eq_append_getElem hltm, ht.out, heq]
          rw [show decide (l[k] = m[k]) = true by simpa using heq] at hnq
          generalize l[k] = x at *
          generalize m[k] = y at *
          obtain ⟨x1, x2⟩ := x
          obtain ⟨y1, y2⟩ := y
          simp only [lnV, Bool.not_true] at hnq
          clear heq
          go_wp2_with fail
          go_quiet (fail)
          go_wp2
          go_roundw
          case rel => exact ⟨k + 1, n + nq, by omega, by go_num, by simp, ht2⟩
          case measure => simp [intOf]; omega
        · have HD : Hid (decide (l = m) = false) := by
            unfold Hid
            rw [decide_eq_false_iff_not]
            intro e
            subst e
            exact heq rfl
          rw [show decide (l[k] = m[k]) = false by simpa using heq] at hnq
          generalize l[k] = x at *
          generalize m[k] = y at *
          obtain ⟨x1, x2⟩ := x
          obtain ⟨y1, y2⟩ := y
          simp only [lnV, Bool.not_false] at hnq
          clear heq ht
          go_wp2_with fail
          go_quiet (fail)
          go_wp2
          go_ret
          exact ⟨by rw [HD.out]; rfl, _, by rw [World.drewN_drewN]⟩
      · have HD : Hid (decide (l = m) = true) := by
          unfold Hid
          rw [decide_eq_true_iff]
          have e := ht.out
          rw [List.take_of_length_le (by omega), List.take_of_length_le (by rw [← HL.out]; omega)] at e
          exact e
        clear ht
        go_wp2
        go_ret
        exact ⟨by rw [HD.out]; rfl, n, rfl⟩
  · obtain ⟨a, cap, rfl, ha⟩ := hu.form
    obtain ⟨b, cap', rfl, hb⟩ := hv.form
    have hne : ((l.length : Int) != (m.length : Int)) = true := by rw [bne_iff_ne]; omega
    have HD : Hid (decide (l = m) = false) := by
      unfold Hid
      rw [decide_eq_false_iff_not]
      intro e
      exact hlen (congrArg List.length e)
    clear hlen ha hb hu hv
    go_enter Tryd.func21, Tryd.ntmps21
    go_wp2
    go_ret
    exact ⟨by rw [HD.out]; rfl, 0, rfl⟩

end Go.Proofs.YtikhanickkhnbaaDoor
