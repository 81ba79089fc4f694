/- Contracts of the functions that read numbers with a sign. -/
import Derived.Test.YtkhcdopnohbieaaProg
import Derived.Test.YtkhcdopnohbieaaPlain
import Derived.Test.YtkhcdopnohbieaaHex
import Derived.Test.YtkhcdopnohbieaaDigits
import Derived.WalkKit
import Derived.WalkLawsBesides
import Derived.BigQuiet
import Derived.Deep.QuietTactic
import Derived.Lib.Hide
import Derived.IntWalk
namespace Go.Proofs.Ytkhcdopnohbieaa
open Go.RowKit
set_option linter.unusedVariables false

def minusB : List UInt8 → Bool
  | [] => false
  | c :: _ => c == 45
def unsign : List UInt8 → List UInt8
  | [] => []
  | c :: t => if c = 45 ∨ c = 43 then t else c :: t

theorem cutSign_any (s : ByteArray) (w : World) (hs : s.size ≤ maxLen) :
    Calls Try.prog 49 #[.string s] w fun e w' => e = .returned (.tuple #[.string ⟨(unsign s.data.toList).toArray⟩, .bool (minusB s.data.toList)]) ∧ w = w' := by
  unfold maxLen at hs
  by_cases h0 : s.size = 0
  · have hz : (s.size : Int) < 1 := by omega
    have h1 : Hid (s.data.toList = []) := by unfold Hid; apply List.eq_nil_of_length_eq_zero; simpa using h0
    have h2 : Hid (s = ⟨#[]⟩) := by unfold Hid; apply ByteArray.ext; apply Array.toList_inj.1; exact h1.out
    clear h0
    go_enter Try.func49, Try.ntmps49
    go_wp2
    go_ret2
    exact ⟨by rw [h1.out, h2.out]; rfl, rfl⟩
  · obtain ⟨c, t, hct⟩ : ∃ c t, s.data.toList = c :: t := by
      cases h : s.data.toList with
      | nil => exfalso; apply h0; have := congrArg List.length h; simpa using this
      | cons c t => exact ⟨c, t, rfl⟩
    have h1 : 1 ≤ (s.size : Int) := by omega
    have hx : (s.extract 0 1).toList = [c] := by rw [Lib.extract_toList, hct]; simp
    have hd : Hid (s.extract 1 s.size = ⟨t.toArray⟩) := by
      unfold Hid
      rw [Lib.extract_eq, hct]
      have : t.length ≤ s.size - 1 := by have := congrArg List.length hct; simp at this; omega
      simp [List.take_of_length_le this]
    have hall : Hid (s = ⟨(c :: t).toArray⟩) := by unfold Hid; rw [← hct]
    have HC := Lib.hid hct
    clear hct h0
    by_cases hm : c = 45
    · have hb1 : ((s.extract 0 1).toList == [45]) = true := by rw [hx, hm]; rfl
      have HM := Lib.hid hm
      clear hx hm
      go_enter Try.func49, Try.ntmps49
      go_wp2
      go_ret2
      exact ⟨by rw [HC.out]; simp only [unsign, minusB, HM.out, hd.out]; rfl, rfl⟩
    · by_cases hp : c = 43
      · have hb1 : ((s.extract 0 1).toList == [45]) = false := by rw [hx]; simp [hm]
        have hb2 : ((s.extract 0 1).toList == [43]) = true := by rw [hx, hp]; rfl
        have HM := Lib.hid hp
        clear hx hm hp
        go_enter Try.func49, Try.ntmps49
        go_wp2
        go_ret2
        exact ⟨by rw [HC.out]; simp only [unsign, minusB, HM.out, hd.out]; rfl, rfl⟩
      · have hb1 : ((s.extract 0 1).toList == [45]) = false := by rw [hx]; simp [hm]
        have hb2 : ((s.extract 0 1).toList == [43]) = false := by rw [hx]; simp [hp]
        have HM := Lib.hid hp
        have HN := Lib.hid hm
        clear hx hm hp
        go_enter Try.func49, Try.ntmps49
        go_wp2
        go_ret2
        refine ⟨?_, rfl⟩
        rw [HC.out]
        have e1 : unsign (c :: t) = c :: t := by simp [unsign, HM.out, HN.out]
        have e2 : minusB (c :: t) = false := by simp [minusB, HN.out]
        rw [e1, e2, ← hall.out]
        rfl

theorem digit_any (c : UInt8) (w : World) :
    Calls Try.prog 47 #[.int .u8 c.toNat] w fun e w' => e = .returned (.bool (Pl.inB c.toNat 48 57)) ∧ w = w' := by
  have hc : c.toNat < 256 := c.toNat_lt
  go_enter Try.func47, Try.ntmps47
  go_wp2_with fail
  refine (in_any _ _ _ _).mono ?_
  rintro e w' ⟨rfl, rfl⟩
  go_wp2
  go_ret
  exact ⟨rfl, rfl⟩

theorem digit_yes (c : UInt8) (w : World) (h : Pl.okB 10 c = true) :
    Calls Try.prog 47 #[.int .u8 c.toNat] w fun e w' => e = .returned (.bool true) ∧ w = w' :=
  (digit_any c w).mono fun e w' ⟨he, hw⟩ => ⟨by
    have h2 : Pl.dig c < 10 := by simpa [Pl.okB] using h
    have h3 : 48 ≤ c.toNat ∧ c.toNat ≤ 57 := by
      unfold Pl.dig at h2
      split at h2
      · assumption
      · split at h2
        · omega
        · split at h2 <;> omega
    rw [he, Pl.inB_true (by omega) (by omega)], hw⟩
theorem dig_ten (c : UInt8) (h : Pl.okB 10 c = true) : (Pl.dig c : Int) = (c.toNat : Int) - 48 ∧ 48 ≤ c.toNat ∧ c.toNat ≤ 57 := by
  have h2 : Pl.dig c < 10 := by simpa [Pl.okB] using h
  unfold Pl.dig at h2 ⊢
  split at h2
  · rw [if_pos (by omega)]; omega
  · split at h2
    · omega
    · split at h2 <;> omega
theorem digit_no (c : UInt8) (w : World) (h : Pl.okB 10 c = false) :
    Calls Try.prog 47 #[.int .u8 c.toNat] w fun e w' => e = .returned (.bool false) ∧ w = w' :=
  (digit_any c w).mono fun e w' ⟨he, hw⟩ => ⟨by
    have h2 : ¬ Pl.dig c < 10 := by simpa [Pl.okB] using h
    have h3 : ¬ (48 ≤ c.toNat ∧ c.toNat ≤ 57) := by
      intro h3
      apply h2
      unfold Pl.dig
      rw [if_pos h3]
      omega
    rw [he, Pl.inB_false (by omega)], hw⟩

def orNeg : Option Nat → Int
  | none => -1
  | some n => n

set_option maxHeartbeats 400000 in
theorem num_18 (s : ByteArray) (w : World) :
    Calls Try.prog 50 #[.string s, .int .i64 18] w fun e w' => e = .returned (.int .i64 (orNeg (Pl.readN 10 18 s.data.toList))) ∧ w = w' := by
  by_cases hl : (s.size : Int) < 1 ∨ 18 < (s.size : Int)
  · have h3 := Lib.hid (Pl.readN_len 10 18 s (by omega))
    have HL := Lib.hid hl
    clear hl
    go_enter Try.func50, Try.ntmps50
    go_wp2_with fail
    refine (in_no _ _ _ _ HL.out).mono ?_
    rintro e w' ⟨rfl, rfl⟩
    go_wp2
    go_ret
    exact ⟨by rw [h3.out]; rfl, rfl⟩
  · have hl1 : 1 ≤ (s.size : Int) := by omega
    have hl2 : (s.size : Int) ≤ 18 := by omega
    clear hl
    go_enter Try.func50, Try.ntmps50
    go_wp2_with fail
    refine (in_yes _ _ _ _ hl1 hl2).mono ?_
    rintro e w' ⟨rfl, rfl⟩
    go_wp2
    go_loop [5, 6] (fun n i => ∃ k v : Nat, k ≤ s.size ∧ i = .int .i64 k ∧ n = .int .i64 v ∧ Pl.Upto 10 s k v) (fun _ i => s.size - (intOf i).toNat)
    case atStart => exact ⟨0, 0, Nat.zero_le _, rfl, rfl, Pl.upto_zero _ _⟩
    case round =>
      obtain ⟨k, v, hk, rfl, rfl, hu⟩ := hrel
      by_cases hp : k < s.size
      · cases ho : Pl.okB 10 s[k]
        · have h3 := Lib.hid (Pl.readN_bad 10 18 s k hp ho)
          have HO := Lib.hid ho
          clear hu ho
          go_wp2_with fail
          refine (digit_no _ _ HO.out).mono ?_
          rintro e w' ⟨rfl, rfl⟩
          go_wp2
          go_ret
          exact ⟨by rw [h3.out]; rfl, rfl⟩
        · have hu2 := Pl.upto_succ hu hp ho
          have hlt2 := Pl.upto_lt hu2 (by omega)
          have hle2 : 10 ^ (k + 1) ≤ 10 ^ 18 := Nat.pow_le_pow_right (by decide) (by omega)
          have hvb : (v * 10 + Pl.dig s[k]) < 1000000000000000000 := Nat.lt_of_lt_of_le hlt2 hle2
          obtain ⟨hd1, hd2, hd3⟩ := dig_ten _ ho
          have HD := Lib.hid hd1
          have HO := Lib.hid ho
          have hvv : (v : Int) ≤ 1000000000000000000 := by omega
          clear hu ho hlt2 hle2 hd1
          go_wp2_with fail
          refine (digit_yes _ _ HO.out).mono ?_
          rintro e w' ⟨rfl, rfl⟩
          go_wp2
          go_round
          case rel => exact ⟨k + 1, v * 10 + Pl.dig s[k], by omega, by go_num, by have := HD.out; go_num, hu2⟩
          case measure => simp [intOf]; omega
      · obtain rfl : k = s.size := by omega
        have h3 := Lib.hid (Pl.upto_all (most := 18) hu (by omega) (by omega))
        clear hu
        go_wp2
        go_ret
        exact ⟨by rw [h3.out]; rfl, rfl⟩

end Go.Proofs.Ytkhcdopnohbieaa
