/- Lists of Rec compared by the laws, where they are alike. -/
import Derived.Test.YtdkghalcnaogfaaProg
import Derived.Test.YtdkghalcnaogfaaPlain
import Derived.Test.YtdkghalcnaogfaaTexts
import Derived.Test.YtdkghalcnaogfaaMarks
import Derived.Test.YtdkghalcnaogfaaRows0
import Derived.Test.YtdkghalcnaogfaaRecRows
import Derived.Test.YtdkghalcnaogfaaKit
import Derived.WalkKit
import Derived.WalkLawsBesides
import Derived.OwnWalk
import Derived.BigQuiet
import Derived.Deep.QuietTactic
import Derived.Lib.QuietBelow
import Derived.Laws.IdiomStrings
import Derived.Lib.Hide
import Derived.IntWalk
namespace Go.Proofs.Ytdkghalcnaogfaa
open Go.RowKit Go.Sort
set_option linter.unusedVariables false

theorem same_recV (x : RecD) : ∀ w, (binOp .neq 36 (recV x) (recV x)).run Try.prog w = .ok (.bool false) w := by
  intro w
  obtain ⟨a0, a1, a2, a3, a4, a5⟩ := x
  have u_int := Try.underlying3
  have a_int := Try.isAgg3
  have z_int := Try.sizeOf3
  have u_string := Try.underlying9
  have a_string := Try.isAgg9
  have z_string := Try.sizeOf9
  have hS : Try.prog.underlying 36 = some (.struct (Try.prog.fieldsOf 36)) := by kernel_rfl
  have hp : Try.prog.stoodInHeld 36 = false := by kernel_rfl
  simp only [recV]
  rw [run_neq_struct, show (10000 : Nat) = 9999 + 1 from rfl, run_equalIn_agg w 9999 36 _ _ hS hp]
  simp only [Program.fieldsOf, Try.underlying36]
  go_simp
  try simp

set_option maxHeartbeats 1600000 in
theorem same_recs (w : World) (u v : Value) (g o g' o' : Nat) (l : List RecD) (hu : RowsRd recS w u g o l) (hv : RowsRd recS w v g' o' l) (hl : l.length ≤ 100000000) :
    Calls Try.prog 13 #[u, v] w fun e w' => e = .returned (.bool true) ∧ Below w.heap.size w w' := by
  obtain ⟨a, cap, rfl, ha⟩ := hu.form
  obtain ⟨b, cap', rfl, hb⟩ := hv.form
  have hne : ((l.length : Int) != (l.length : Int)) = false := by simp
  have hgd : Try.prog.eqGuardType Try.prog.depth 36 = false := by kernel_rfl
  have CU := Lib.hid hu
  have CV := Lib.hid hv
  have HA := Lib.hid ha
  have HB := Lib.hid hb
  clear hu hv ha hb
  go_enter Try.func13, Try.ntmps13
  go_wp2
  go_loopw [5] (fun i wr => ∃ k n : Nat, k ≤ l.length ∧ i = .int .i64 k ∧ wr = w.drewN n) (fun i wr => l.length - (intOf i).toNat)
  case atStart => exact ⟨0, 0, Nat.zero_le _, rfl, rfl⟩
  case round =>
    obtain ⟨k, n, hk, rfl, rfl⟩ := hrel
    by_cases hlt : k < l.length
    · have hln : l ≠ [] := by intro e; subst e; simp at hlt
      obtain rfl := HA.out hln
      obtain rfl := HB.out hln
      have q0 := rec_c0 CU.out k hlt
      have r0 := rec_c0 CV.out k hlt
      have q1 := rec_c1 CU.out k hlt
      have r1 := rec_c1 CV.out k hlt
      have q2 := rec_c2 CU.out k hlt
      have r2 := rec_c2 CV.out k hlt
      have q3 := rec_c3 CU.out k hlt
      have r3 := rec_c3 CV.out k hlt
      have q4 := rec_c4 CU.out k hlt
      have r4 := rec_c4 CV.out k hlt
      have q5 := rec_c5 CU.out k hlt
      have r5 := rec_c5 CV.out k hlt
      have hjn : (k : Int) < (l.length : Int) := by omega
      have hnq := same_recV l[k]
      generalize l[k] = x at *
      obtain ⟨a0, a1, a2, a3, a4, a5⟩ := x
      simp only [recV] at hnq
      go_wp2_with fail
      go_quiet (fail)
      go_wp2
      go_roundw
      case rel => exact ⟨k + 1, n + nq, by omega, by go_num, by simp⟩
      case measure => simp [intOf]; omega
    · have hb := drew_belowK (w := w) n
      go_wp2
      go_ret
      exact ⟨rfl, hb⟩

end Go.Proofs.Ytdkghalcnaogfaa
