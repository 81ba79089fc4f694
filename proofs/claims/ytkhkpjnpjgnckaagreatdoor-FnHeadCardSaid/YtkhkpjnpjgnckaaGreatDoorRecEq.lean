/- Lists of records held against each other by the library; two records held against each other. -/
import Derived.Test.YtkhkpjnpjgnckaaGreatDoorProg
import Derived.Test.YtkhkpjnpjgnckaaGreatDoorPlain
import Derived.Test.YtkhkpjnpjgnckaaGreatDoorRows0
import Derived.Test.YtkhkpjnpjgnckaaGreatDoorRecRows
import Derived.WalkKit
import Derived.WalkLawsBesides
import Derived.BigQuiet
import Derived.Deep.QuietTactic
import Derived.Laws.StructEq
import Derived.Laws.IdiomStrings
import Derived.Lib.Hide
import Derived.IntWalk
set_option maxRecDepth 100000
namespace Go.Proofs.YtkhkpjnpjgnckaaGreatDoor
open Go.RowKit Go.Sort
set_option linter.unusedVariables false

theorem toList_sameR (x y : ByteArray) : x.toList = y.toList ↔ x = y :=
  ⟨fun e => by rw [Lib.toList_data, Lib.toList_data] at e; exact ByteArray.ext (Array.toList_inj.1 e), fun e => by rw [e]⟩
theorem equal_rec (x y : RecD) : ∀ w, (Op.equalIn 10000 35 (recV x) (recV y)).run Tryz.prog w = .ok (decide (x = y)) w := by
  intro w
  obtain ⟨a0, a1, a2, a3, a4, a5⟩ := x
  obtain ⟨b0, b1, b2, b3, b4, b5⟩ := y
  have u9 := Tryz.underlying9
  have a9 := Tryz.isAgg9
  have z9 := Tryz.sizeOf9
  have u3 := Tryz.underlying3
  have aa3 := Tryz.isAgg3
  have z3 := Tryz.sizeOf3
  have hS : Tryz.prog.underlying 35 = some (.struct (Tryz.prog.fieldsOf 35)) := by kernel_rfl
  have hp : Tryz.prog.stoodInHeld 35 = false := by kernel_rfl
  simp only [recV]
  rw [show (10000 : Nat) = 9999 + 1 from rfl, run_equalIn_agg w 9999 35 _ _ hS hp]
  simp only [Program.fieldsOf, Tryz.underlying35]
  go_simp
  simp only [toList_sameR]
  by_cases h0 : a0 = b0 <;> by_cases h1 : a1 = b1 <;> by_cases h2 : a2 = b2 <;> by_cases h3 : a3 = b3 <;> by_cases h4 : a4 = b4 <;> by_cases h5 : a5 = b5 <;> simp [h0, h1, h2, h3, h4, h5]
theorem neq_rec (x y : RecD) : ∀ w, (binOp .neq 35 (recV x) (recV y)).run Tryz.prog w = .ok (.bool (!decide (x = y))) w := by
  intro w
  have h := equal_rec x y w
  simp only [recV] at h ⊢
  rw [run_neq_struct, h]
  rfl
theorem eql_rec (x y : RecD) : ∀ w, (binOp .eql 35 (recV x) (recV y)).run Tryz.prog w = .ok (.bool (decide (x = y))) w := by
  intro w
  have h := equal_rec x y w
  simp only [recV] at h ⊢
  rw [run_eql_struct, h]
  rfl

set_option maxHeartbeats 1600000 in
theorem equalRecs (w : World) (u v : Value) (g o g' o' : Nat) (l m : List RecD) (hu : RowsRd recS w u g o l) (hv : RowsRd recS w v g' o' m) (hl : l.length ≤ 9223372036854775806) (hm : m.length ≤ 9223372036854775806) :
    Calls Tryz.prog 50 #[u, v] w fun e w' => e = .returned (.bool (decide (l = m))) ∧ ∃ n, w' = w.drewN n := by
  by_cases hlen : l.length = m.length
  · obtain ⟨a, cap, rfl, ha⟩ := hu.form
    obtain ⟨b, cap', rfl, hb⟩ := hv.form
    have hne : ((l.length : Int) != (m.length : Int)) = false := by simp [hlen]
    have hgd : Tryz.prog.eqGuardType Tryz.prog.depth 35 = false := by kernel_rfl
    have HL := Lib.hid hlen
    have CU := Lib.hid hu
    have CV := Lib.hid hv
    have HA := Lib.hid ha
    have HB := Lib.hid hb
    clear hlen hu hv ha hb
    go_enter Tryz.func50, Tryz.ntmps50
    go_wp2
    go_loopw [13] (fun i wr => ∃ k n : Nat, k ≤ l.length ∧ i = .int .i64 k ∧ wr = w.drewN n ∧ Hid (l.take k = m.take k)) (fun i wr => l.length - (intOf i).toNat)
    case atStart => exact ⟨0, 0, Nat.zero_le _, rfl, rfl, rfl⟩
    case round =>
      obtain ⟨k, n, hk, rfl, rfl, ht⟩ := hrel
      by_cases hlt : k < l.length
      · have hltm : k < m.length := by rw [← HL.out]; exact hlt
        have hln : l ≠ [] := by intro e; subst e; simp at hlt
        have hmn : m ≠ [] := by intro e; subst e; simp at hltm
        obtain rfl := HA.out hln
        obtain rfl := HB.out hmn
        have q0 := rec_c0 CU.out k hlt
        have q1 := rec_c1 CU.out k hlt
        have q2 := rec_c2 CU.out k hlt
        have q3 := rec_c3 CU.out k hlt
        have q4 := rec_c4 CU.out k hlt
        have q5 := rec_c5 CU.out k hlt
        have z0 := rec_c0 CV.out k hltm
        have z1 := rec_c1 CV.out k hltm
        have z2 := rec_c2 CV.out k hltm
        have z3 := rec_c3 CV.out k hltm
        have z4 := rec_c4 CV.out k hltm
        have z5 := rec_c5 CV.out k hltm
        have hjn : (k : Int) < (l.length : Int) := by omega
        have hjm : (k : Int) < (m.length : Int) := by omega
        have hnq := neq_rec l[k] m[k]
        by_cases heq : l[k] = m[k]
        · have ht2 : Hid (l.take (k + 1) = m.take (k + 1)) := by
            unfold Hid
            rw [List.take_succ_eq_append_getElem hlt, List.take_succ_eq_append_getElem hltm, ht.out, heq]
          rw [show decide (l[k] = m[k]) = true by simpa using heq] at hnq
          generalize l[k] = x at *
          generalize m[k] = y at *
          obtain ⟨x0, x1, x2, x3, x4, x5⟩ := x
          obtain ⟨y0, y1, y2, y3, y4, y5⟩ := y
          simp only [recV, Bool.not_true] at hnq
          clear heq
          go_wp2_with fail
          go_quiet (fail)
          go_wp2
          go_roundw
          case rel => exact ⟨k + 1, n + nq, by omega, by go_num, by simp, ht2⟩
          case measure => simp [intOf]; omega
        · have HD : Hid (decide (l = m) = false) := by
            unfold Hid
            rw [decide_eq_false_iff_not]
            intro e
            subst e
            exact heq rfl
          rw [show decide (l[k] = m[k]) = false by simpa using heq] at hnq
          generalize l[k] = x at *
          generalize m[k] = y at *
          obtain ⟨x0, x1, x2, x3, x4, x5⟩ := x
          obtain ⟨y0, y1, y2, y3, y4, y5⟩ := y
          simp only [recV, Bool.not_false] at hnq
          clear heq ht
          go_wp2_with fail
          go_quiet (fail)
          go_wp2
          go_ret
          exact ⟨by rw [HD.out]; rfl, _, by rw [World.drewN_drewN]⟩
      · have HD : Hid (decide (l = m) = true) := by
          unfold Hid
          rw [decide_eq_true_iff]
          have e := ht.out
          rw [List.take_of_length_le (by omega), List.take_of_length_le (by rw [← HL.out]; omega)] at e
          exact e
        clear ht
        go_wp2
        go_ret
        exact ⟨by rw [HD.out]; rfl, n, rfl⟩
  · obtain ⟨a, cap, rfl, ha⟩ := hu.form
    obtain ⟨b, cap', rfl, hb⟩ := hv.form
    have hne : ((l.length : Int) != (m.length : Int)) = true := by rw [bne_iff_ne]; omega
    have HD : Hid (decide (l = m) = false) := by
      unfold Hid
      rw [decide_eq_false_iff_not]
      intro e
      exact hlen (congrArg List.length e)
    clear hlen ha hb hu hv
    go_enter Tryz.func50, Tryz.ntmps50
    go_wp2
    go_ret
    exact ⟨by rw [HD.out]; rfl, 0, rfl⟩

end Go.Proofs.YtkhkpjnpjgnckaaGreatDoor
