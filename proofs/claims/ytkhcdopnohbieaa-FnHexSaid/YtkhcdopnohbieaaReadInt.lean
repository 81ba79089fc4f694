/- Contracts of the functions ReadInt and ReadHex, and the walks of their exact laws. -/
import Derived.Test.YtkhcdopnohbieaaProg
import Derived.Test.YtkhcdopnohbieaaPlain
import Derived.Test.YtkhcdopnohbieaaHex
import Derived.Test.YtkhcdopnohbieaaDigits
import Derived.Test.YtkhcdopnohbieaaSign
import Derived.WalkKit
import Derived.WalkLawsBesides
import Derived.BigQuiet
import Derived.Deep.QuietTactic
import Derived.Lib.Hide
import Derived.IntWalk
namespace Go.Proofs.Ytkhcdopnohbieaa
open Go.RowKit
set_option linter.unusedVariables false

def readV (l : List UInt8) : Int := if minusB l then -((Pl.readN 10 18 (unsign l)).getD 0 : Nat) else ((Pl.readN 10 18 (unsign l)).getD 0 : Nat)
def readO (l : List UInt8) : Bool := (Pl.readN 10 18 (unsign l)).isSome

theorem readN_le (l : List UInt8) : (Pl.readN 10 18 l).getD 0 < 1000000000000000000 := by
  unfold Pl.readN
  split
  · rename_i h
    have h1 := Pl.num_lt 10 l h.2.2
    have h2 : 10 ^ l.length ≤ 10 ^ 18 := Nat.pow_le_pow_right (by decide) h.2.1
    exact Nat.lt_of_lt_of_le h1 h2
  · decide

theorem readInt_impl (s : ByteArray) (w : World) (hs : s.size ≤ maxLen) :
    Calls Try.prog 25 #[.string s] w fun e w' => e = .returned (.tuple #[.int .i64 (readV s.data.toList), .bool (readO s.data.toList)]) ∧ Below w.heap.size w w' := by
  have hb := readN_le (unsign s.data.toList)
  go_enter Try.func25, Try.ntmps25
  go_wp2_with fail
  refine (cutSign_any s _ hs).mono ?_
  rintro e w' ⟨rfl, rfl⟩
  cases hm : minusB s.data.toList
  · have h3 : Hid (readV s.data.toList = ((Pl.readN 10 18 (unsign s.data.toList)).getD 0 : Nat)) := by unfold Hid readV; rw [hm]; rfl
    have h4 : Hid (readO s.data.toList = (Pl.readN 10 18 (unsign s.data.toList)).isSome) := rfl
    clear hm
    go_wp2_with fail
    refine (readDigits_10 _ _).mono ?_
    rintro e w2 ⟨rfl, hb2⟩
    simp only [List.toList_toArray]
    generalize (Pl.readN 10 18 (unsign s.data.toList)) = r at *
    generalize r.getD 0 = v at *
    generalize r.isSome = o at *
    go_wp2
    go_ret2
    exact ⟨by rw [h3.out, h4.out]; rfl, hb2⟩
  · have h3 : Hid (readV s.data.toList = -((Pl.readN 10 18 (unsign s.data.toList)).getD 0 : Nat)) := by unfold Hid readV; rw [hm]; rfl
    have h4 : Hid (readO s.data.toList = (Pl.readN 10 18 (unsign s.data.toList)).isSome) := rfl
    clear hm
    go_wp2_with fail
    refine (readDigits_10 _ _).mono ?_
    rintro e w2 ⟨rfl, hb2⟩
    simp only [List.toList_toArray]
    generalize (Pl.readN 10 18 (unsign s.data.toList)) = r at *
    generalize r.getD 0 = v at *
    generalize r.isSome = o at *
    go_wp2
    go_ret2
    exact ⟨by rw [h3.out, h4.out]; rfl, hb2⟩

theorem readInt_spec (s : ByteArray) (w : World) (hs : s.size ≤ maxLen) :
    Calls Try.prog 26 #[.string s] w fun e w' => e = .returned (.tuple #[.int .i64 (readV s.data.toList), .bool (readO s.data.toList)]) ∧ w = w' := by
  unfold maxLen at hs
  have hb := readN_le (unsign s.data.toList)
  by_cases h0 : s.size = 0
  · have h1 : s.data.toList = [] := by apply List.eq_nil_of_length_eq_zero; simpa using h0
    have h2 : s = ⟨#[]⟩ := by apply ByteArray.ext; apply Array.toList_inj.1; exact h1
    subst h2
    clear h0 h1 hs hb
    go_enter Try.func26, Try.ntmps26
    go_wp2_with fail
    refine (num_18 _ _).mono ?_
    rintro e w2 ⟨rfl, rfl⟩
    rw [show orNeg (Pl.readN 10 18 (ByteArray.mk #[]).data.toList) = -1 from rfl]
    go_wp2
    go_ret2
    exact ⟨rfl, rfl⟩
  · obtain ⟨c, t, hct⟩ : ∃ c t, s.data.toList = c :: t := by
      cases h : s.data.toList with
      | nil => exfalso; apply h0; have := congrArg List.length h; simpa using this
      | cons c t => exact ⟨c, t, rfl⟩
    have h1 : 0 < s.size := by omega
    have hne : s.toList.isEmpty = false := by rw [Lib.toList_data, hct]; rfl
    have hne2 : (s.toList == []) = false := by rw [Lib.toList_data, hct]; rfl
    have hc0 : s[0] = c := by
      have : s[0] = s.data.toList[0]'(by simpa using h1) := rfl
      rw [this]
      simp only [hct]
      rfl
    have hd : Hid ((s.extract 1 s.size).data.toList = t) := by
      unfold Hid
      rw [Lib.extract_data, hct]
      have : t.length ≤ s.size - 1 := by have := congrArg List.length hct; simp at this; omega
      simp [List.take_of_length_le this]
    have HC := Lib.hid hct
    have HC0 := Lib.hid hc0
    by_cases hm : c = 45
    · have hb1 : ((s[0].toNat : Int) == 45) = true := by rw [hc0, hm]; rfl
      have h3 : Hid (readV s.data.toList = -((Pl.readN 10 18 t).getD 0 : Nat)) := by unfold Hid readV; rw [hct]; simp [minusB, unsign, hm]
      have h4 : Hid (readO s.data.toList = (Pl.readN 10 18 t).isSome) := by unfold Hid readO; rw [hct]; simp [unsign, hm]
      rw [hct] at hb
      rw [show unsign (c :: t) = t by simp [unsign, hm]] at hb
      clear hct hc0 hm h0
      go_enter Try.func26, Try.ntmps26
      go_wp2_with fail
      refine (num_18 _ _).mono ?_
      rintro e w2 ⟨rfl, rfl⟩
      rw [hd.out]
      cases hr : Pl.readN 10 18 t with
      | none =>
        rw [hr] at h3 h4 hb
        rw [show orNeg none = -1 from rfl]
        clear hr
        go_wp2
        go_ret2
        exact ⟨by rw [h3.out, h4.out]; rfl, rfl⟩
      | some n =>
        rw [hr] at h3 h4 hb
        rw [show orNeg (some n) = (n : Int) from rfl]
        have hn : n < 1000000000000000000 := hb
        clear hr hb
        go_wp2
        go_ret2
        exact ⟨by rw [h3.out, h4.out]; rfl, rfl⟩
    · have hb1 : ((s[0].toNat : Int) == 45) = false := by
        rw [hc0, beq_eq_false_iff_ne]; intro e; apply hm; apply UInt8.toNat_inj.1; exact Int.ofNat_inj.1 e
      have hmin : minusB (c :: t) = false := by simp [minusB, hm]
      by_cases hp : c = 43
      · have hb2 : ((s[0].toNat : Int) == 43) = true := by rw [hc0, hp]; rfl
        have h3 : Hid (readV s.data.toList = ((Pl.readN 10 18 t).getD 0 : Nat)) := by unfold Hid readV; rw [hct, hmin]; simp [unsign, hp]
        have h4 : Hid (readO s.data.toList = (Pl.readN 10 18 t).isSome) := by unfold Hid readO; rw [hct]; simp [unsign, hp]
        clear hct hc0 hm h0 hp hmin hb
        go_enter Try.func26, Try.ntmps26
        go_wp2_with fail
        refine (num_18 _ _).mono ?_
        rintro e w2 ⟨rfl, rfl⟩
        rw [hd.out]
        cases hr : Pl.readN 10 18 t with
        | none =>
          rw [hr] at h3 h4
          rw [show orNeg none = -1 from rfl]
          clear hr
          go_wp2
          go_ret2
          exact ⟨by rw [h3.out, h4.out]; rfl, rfl⟩
        | some n =>
          rw [hr] at h3 h4
          rw [show orNeg (some n) = (n : Int) from rfl]
          clear hr
          go_wp2
          go_ret2
          exact ⟨by rw [h3.out, h4.out]; rfl, rfl⟩
      · have hb2 : ((s[0].toNat : Int) == 43) = false := by
          rw [hc0, beq_eq_false_iff_ne]; intro e; apply hp; apply UInt8.toNat_inj.1; exact Int.ofNat_inj.1 e
        have hun : unsign (c :: t) = c :: t := by simp [unsign, hm, hp]
        have h3 : Hid (readV s.data.toList = ((Pl.readN 10 18 s.data.toList).getD 0 : Nat)) := by unfold Hid readV; rw [hct, hmin, hun]; rfl
        have h4 : Hid (readO s.data.toList = (Pl.readN 10 18 s.data.toList).isSome) := by unfold Hid readO; rw [hct, hun]
        clear hct hc0 hm h0 hp hmin hb hun
        go_enter Try.func26, Try.ntmps26
        go_wp2_with fail
        refine (num_18 _ _).mono ?_
        rintro e w2 ⟨rfl, rfl⟩
        cases hr : Pl.readN 10 18 s.data.toList with
        | none =>
          rw [hr] at h3 h4
          rw [show orNeg none = -1 from rfl]
          clear hr
          go_wp2
          go_ret2
          exact ⟨by rw [h3.out, h4.out]; rfl, rfl⟩
        | some n =>
          rw [hr] at h3 h4
          rw [show orNeg (some n) = (n : Int) from rfl]
          clear hr
          go_wp2
          go_ret2
          exact ⟨by rw [h3.out, h4.out]; rfl, rfl⟩

theorem fnExactReadInt_walk (a0 : ByteArray) (w0 : a0.size ≤ maxLen) (w : World) :
    Calls Try.prog 6 #[.string a0] w fun e w' => e = .returned (.bool true) ∧ Below w.heap.size w w' := by
  by_cases h0 : a0.size ≤ 1048576
  · go_enter Try.func6, Try.ntmps6
    go_wp2_with fail
    refine (readInt_spec a0 _ w0).mono ?_
    rintro e w2 ⟨rfl, rfl⟩
    go_wp2_with fail
    refine (readInt_impl a0 _ w0).mono ?_
    rintro e w3 ⟨rfl, hb⟩
    generalize readV a0.data.toList = v
    generalize readO a0.data.toList = o
    have hv : (v != v) = false := by simp
    have ho : (o != o) = false := by simp
    go_wp2
    go_ret
    exact ⟨rfl, hb⟩
  · go_enter Try.func6, Try.ntmps6
    go_wp2
    go_ret
    exact ⟨rfl, Below.refl _ _⟩

/-! ReadHex -/
theorem readN16_le (l : List UInt8) : (Pl.readN 16 8 l).getD 0 < 4294967296 := by
  unfold Pl.readN
  split
  · rename_i h
    have h1 := Pl.num_lt 16 l h.2.2
    have h2 : 16 ^ l.length ≤ 16 ^ 8 := Nat.pow_le_pow_right (by decide) h.2.1
    exact Nat.lt_of_lt_of_le h1 h2
  · decide

theorem readHex_impl (s : ByteArray) (w : World) :
    Calls Try.prog 21 #[.string s] w fun e w' => e = .returned (.int .i64 (orNeg (Pl.readN 16 8 s.data.toList))) ∧ Below w.heap.size w w' := by
  cases hr : Pl.readN 16 8 s.data.toList with
  | none =>
    have HR := Lib.hid hr
    clear hr
    go_enter Try.func21, Try.ntmps21
    go_wp2_with fail
    refine (readDigits_16 _ _).mono ?_
    rintro e w2 ⟨rfl, hb2⟩
    rw [HR.out, show (none : Option Nat).isSome = false from rfl]
    go_wp2
    go_ret
    exact ⟨rfl, hb2⟩
  | some n =>
    have HR := Lib.hid hr
    clear hr
    go_enter Try.func21, Try.ntmps21
    go_wp2_with fail
    refine (readDigits_16 _ _).mono ?_
    rintro e w2 ⟨rfl, hb2⟩
    rw [HR.out, show (some n).isSome = true from rfl, show (some n).getD 0 = n from rfl]
    go_wp2
    go_ret
    exact ⟨rfl, hb2⟩

theorem dig_hex (c : UInt8) (h : Pl.okB 16 c = true) :
    ((48 ≤ c.toNat ∧ c.toNat ≤ 57) ∧ (Pl.dig c : Int) = (c.toNat : Int) - 48) ∨ ((97 ≤ c.toNat ∧ c.toNat ≤ 102) ∧ (Pl.dig c : Int) = (c.toNat : Int) - 87) ∨ ((65 ≤ c.toNat ∧ c.toNat ≤ 70) ∧ (Pl.dig c : Int) = (c.toNat : Int) - 55) := by
  have h2 : Pl.dig c < 16 := by simpa [Pl.okB] using h
  unfold Pl.dig at h2 ⊢
  split at h2
  · left; rw [if_pos (by omega)]; omega
  · split at h2
    · right; left; rw [if_neg (by omega), if_pos (by omega)]; omega
    · split at h2
      · right; right; rw [if_neg (by omega), if_neg (by omega), if_pos (by omega)]; omega
      · omega
theorem dig_nohex (c : UInt8) (h : Pl.okB 16 c = false) : c.toNat < 48 ∨ (58 ≤ c.toNat ∧ c.toNat < 65) ∨ (71 ≤ c.toNat ∧ c.toNat < 97) ∨ 103 ≤ c.toNat := by
  have h2 : ¬ Pl.dig c < 16 := by simpa [Pl.okB] using h
  unfold Pl.dig at h2
  split at h2
  · omega
  · split at h2
    · omega
    · split at h2 <;> omega
theorem digit_in (c : UInt8) (w : World) (h : 48 ≤ c.toNat ∧ c.toNat ≤ 57) :
    Calls Try.prog 47 #[.int .u8 c.toNat] w fun e w' => e = .returned (.bool true) ∧ w = w' :=
  (digit_any c w).mono fun e w' ⟨he, hw⟩ => ⟨by rw [he, Pl.inB_true (by omega) (by omega)], hw⟩
theorem digit_out (c : UInt8) (w : World) (h : c.toNat < 48 ∨ 57 < c.toNat) :
    Calls Try.prog 47 #[.int .u8 c.toNat] w fun e w' => e = .returned (.bool false) ∧ w = w' :=
  (digit_any c w).mono fun e w' ⟨he, hw⟩ => ⟨by rw [he, Pl.inB_false (by omega)], hw⟩

set_option maxHeartbeats 800000 in
theorem readHex_spec (s : ByteArray) (w : World) :
    Calls Try.prog 22 #[.string s] w fun e w' => e = .returned (.int .i64 (orNeg (Pl.readN 16 8 s.data.toList))) ∧ w = w' := by
  by_cases hl : (s.size : Int) < 1 ∨ 8 < (s.size : Int)
  · have h3 := Lib.hid (Pl.readN_len 16 8 s (by omega))
    have HL := Lib.hid hl
    clear hl
    go_enter Try.func22, Try.ntmps22
    go_wp2_with fail
    refine (in_no _ _ _ _ HL.out).mono ?_
    rintro e w' ⟨rfl, rfl⟩
    go_wp2
    go_ret
    exact ⟨by rw [h3.out]; rfl, rfl⟩
  · have hl1 : 1 ≤ (s.size : Int) := by omega
    have hl2 : (s.size : Int) ≤ 8 := by omega
    clear hl
    go_enter Try.func22, Try.ntmps22
    go_wp2_with fail
    refine (in_yes _ _ _ _ hl1 hl2).mono ?_
    rintro e w' ⟨rfl, rfl⟩
    go_wp2
    go_loop [3, 4] (fun n i => ∃ k v : Nat, k ≤ s.size ∧ i = .int .i64 k ∧ n = .int .i64 v ∧ Pl.Upto 16 s k v) (fun _ i => s.size - (intOf i).toNat)
    case atStart => exact ⟨0, 0, Nat.zero_le _, rfl, rfl, Pl.upto_zero _ _⟩
    case round =>
      obtain ⟨k, v, hk, rfl, rfl, hu⟩ := hrel
      by_cases hp : k < s.size
      · have hcb : s[k].toNat < 256 := s[k].toNat_lt
        cases ho : Pl.okB 16 s[k]
        · have h3 := Lib.hid (Pl.readN_bad 16 8 s k hp ho)
          have hno := Lib.hid (dig_nohex _ ho)
          clear hu ho
          go_wp2_with fail
          refine (digit_out _ _ (by have := hno.out; omega)).mono ?_
          rintro e w' ⟨rfl, rfl⟩
          go_wp2_with fail
          refine (in_no _ _ _ _ (by have := hno.out; omega)).mono ?_
          rintro e w' ⟨rfl, rfl⟩
          go_wp2_with fail
          refine (in_no _ _ _ _ (by have := hno.out; omega)).mono ?_
          rintro e w' ⟨rfl, rfl⟩
          go_wp2
          go_ret
          exact ⟨by rw [h3.out]; rfl, rfl⟩
        · have hu2 := Pl.upto_succ hu hp ho
          have hlt2 := Pl.upto_lt hu2 (by omega)
          have hle2 : 16 ^ (k + 1) ≤ 16 ^ 8 := Nat.pow_le_pow_right (by decide) (by omega)
          have hvb : (v * 16 + Pl.dig s[k]) < 4294967296 := Nat.lt_of_lt_of_le hlt2 hle2
          have hvv : (v : Int) ≤ 4294967296 := by omega
          have hds := dig_hex _ ho
          clear hu ho hlt2 hle2
          rcases hds with ⟨hr, hd⟩ | ⟨hr, hd⟩ | ⟨hr, hd⟩
          · have HD := Lib.hid hd
            clear hd
            go_wp2_with fail
            refine (digit_in _ _ hr).mono ?_
            rintro e w' ⟨rfl, rfl⟩
            go_wp2
            go_round
            case rel => exact ⟨k + 1, v * 16 + Pl.dig s[k], by omega, by go_num, by have := HD.out; go_num, hu2⟩
            case measure => simp [intOf]; omega
          · have HD := Lib.hid hd
            clear hd
            go_wp2_with fail
            refine (digit_out _ _ (by omega)).mono ?_
            rintro e w' ⟨rfl, rfl⟩
            go_wp2_with fail
            refine (in_yes _ _ _ _ (by omega) (by omega)).mono ?_
            rintro e w' ⟨rfl, rfl⟩
            go_wp2
            go_round
            case rel => exact ⟨k + 1, v * 16 + Pl.dig s[k], by omega, by go_num, by have := HD.out; go_num, hu2⟩
            case measure => simp [intOf]; omega
          · have HD := Lib.hid hd
            clear hd
            go_wp2_with fail
            refine (digit_out _ _ (by omega)).mono ?_
            rintro e w' ⟨rfl, rfl⟩
            go_wp2_with fail
            refine (in_no _ _ _ _ (by omega)).mono ?_
            rintro e w' ⟨rfl, rfl⟩
            go_wp2_with fail
            refine (in_yes _ _ _ _ (by omega) (by omega)).mono ?_
            rintro e w' ⟨rfl, rfl⟩
            go_wp2
            go_round
            case rel => exact ⟨k + 1, v * 16 + Pl.dig s[k], by omega, by go_num, by have := HD.out; go_num, hu2⟩
            case measure => simp [intOf]; omega
      · obtain rfl : k = s.size := by omega
        have h3 := Lib.hid (Pl.upto_all (most := 8) hu (by omega) (by omega))
        clear hu
        go_wp2
        go_ret
        exact ⟨by rw [h3.out]; rfl, rfl⟩

theorem fnExactReadHex_walk (a0 : ByteArray) (w0 : a0.size ≤ maxLen) (w : World) :
    Calls Try.prog 8 #[.string a0] w fun e w' => e = .returned (.bool true) ∧ Below w.heap.size w w' := by
  by_cases h0 : a0.size ≤ 1048576
  · go_enter Try.func8, Try.ntmps8
    go_wp2_with fail
    refine (readHex_spec a0 _).mono ?_
    rintro e w2 ⟨rfl, rfl⟩
    go_wp2_with fail
    refine (readHex_impl a0 _).mono ?_
    rintro e w3 ⟨rfl, hb⟩
    generalize orNeg (Pl.readN 16 8 a0.data.toList) = v
    have hv : (v != v) = false := by simp
    go_wp2
    go_ret
    exact ⟨rfl, hb⟩
  · go_enter Try.func8, Try.ntmps8
    go_wp2
    go_ret
    exact ⟨rfl, Below.refl _ _⟩

end Go.Proofs.Ytkhcdopnohbieaa
