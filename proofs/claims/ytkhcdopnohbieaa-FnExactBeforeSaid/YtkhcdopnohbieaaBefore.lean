/- Contracts of the two functions Before. -/
import Derived.Test.YtkhcdopnohbieaaProg
import Derived.Test.YtkhcdopnohbieaaPlain
import Derived.WalkKit
import Derived.WalkLawsBesides
import Derived.BigQuiet
import Derived.Deep.QuietTactic
import Derived.Lib.Hide
import Derived.IntWalk
namespace Go.Proofs.Ytkhcdopnohbieaa
open Go.RowKit
set_option linter.unusedVariables false

theorem before_impl (a b : ByteArray) (w : World) :
    Calls Try.prog 35 #[.string a, .string b] w fun e w' => e = .returned (.bool (Op.bytesLess a.toList b.toList)) ∧ w = w' := by
  go_enter Try.func35, Try.ntmps35
  go_wp2
  go_ret
  exact ⟨rfl, rfl⟩

set_option maxHeartbeats 400000 in
theorem before_spec (a b : ByteArray) (w : World) (ha : a.size ≤ maxLen) (hb : b.size ≤ maxLen) :
    Calls Try.prog 34 #[.string a, .string b] w fun e w' => e = .returned (.bool (Op.bytesLess a.toList b.toList)) ∧ ∃ n, w' = w.drewN n := by
  unfold maxLen at ha hb
  go_enter Try.func34, Try.ntmps34
  go_wp2
  go_loopw [5] (fun i wr => ∃ k n : Nat, k ≤ a.size ∧ k ≤ b.size ∧ i = .int .i64 k ∧ wr = w.drewN n ∧ Pl.LessAt a.data.toList b.data.toList k) (fun i wr => a.size - (intOf i).toNat)
  case atStart => exact ⟨0, 0, Nat.zero_le _, Nat.zero_le _, rfl, rfl, Pl.lessAt_zero _ _⟩
  case round =>
    obtain ⟨k, n, hka, hkb, rfl, rfl, hl⟩ := hrel
    by_cases h1 : k < a.size
    · by_cases h2 : k < b.size
      · by_cases h3 : a[k] = b[k]
        · have H3 := Lib.hid h3
          have h4 : ((a[k].toNat : Int) != (b[k].toNat : Int)) = false := by simp [h3]
          clear h3
          go_wp2_with fail
          go_quiet (fail)
          go_wp2
          go_roundw
          case rel => exact ⟨k + 1, n + nq, by omega, by omega, by go_num, by simp, Pl.lessAt_succ hl (by simpa using h1) (by simpa using h2) H3.out⟩
          case measure => simp [intOf]; omega
        · have H3 := Lib.hid h3
          have h4 : ((a[k].toNat : Int) != (b[k].toNat : Int)) = true := by
            rw [bne_iff_ne]; intro e; exact h3 (UInt8.toNat_inj.1 (by omega))
          clear h3
          go_wp2_with fail
          go_quiet (fail)
          go_wp2_with fail
          go_quiet (fail)
          go_wp2
          go_ret
          refine ⟨?_, ⟨_, by rw [World.drewN_drewN, World.drewN_drewN]⟩⟩
          rw [Lib.toList_data, Lib.toList_data, Pl.lessAt_diff hl (by simpa using h1) (by simpa using h2) H3.out]
          simp
          exact Iff.rfl
      · go_wp2
        go_ret
        refine ⟨?_, ⟨n, rfl⟩⟩
        rw [Lib.toList_data, Lib.toList_data, Pl.lessAt_end hl (by simp; omega) (by simpa using hka) (by simpa using hkb)]
        simp
    · go_wp2
      go_ret
      refine ⟨?_, ⟨n, rfl⟩⟩
      rw [Lib.toList_data, Lib.toList_data, Pl.lessAt_end hl (by simp; omega) (by simpa using hka) (by simpa using hkb)]
      simp

theorem fnExactBefore_walk (a0 : ByteArray) (a1 : ByteArray) (w0 : a0.size ≤ maxLen) (w1 : a1.size ≤ maxLen) (w : World) :
    Calls Try.prog 12 #[.string a0, .string a1] w fun e w' => e = .returned (.bool true) ∧ Below w.heap.size w w' := by
  by_cases h0 : a0.size ≤ 1048576
  · by_cases h1 : a1.size ≤ 1048576
    · go_enter Try.func12, Try.ntmps12
      go_wp2_with fail
      refine (before_spec a0 a1 _ w0 w1).mono ?_
      rintro e w2 ⟨rfl, n, rfl⟩
      go_wp2_with fail
      refine (before_impl a0 a1 _).mono ?_
      rintro e w3 ⟨rfl, rfl⟩
      generalize Op.bytesLess a0.toList a1.toList = v
      go_wp2
      all_goals first | (exfalso; simp_all; done) | (go_ret; exact ⟨rfl, below_drewN (Below.refl _ _) _⟩)
    · go_enter Try.func12, Try.ntmps12
      go_wp2
      go_ret
      exact ⟨rfl, Below.refl _ _⟩
  · go_enter Try.func12, Try.ntmps12
    go_wp2
    go_ret
    exact ⟨rfl, Below.refl _ _⟩

end Go.Proofs.Ytkhcdopnohbieaa
