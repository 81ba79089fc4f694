/- Contracts of the functions ReadInt and ReadHex, and the walks of their exact laws. -/
import Derived.Test.YtflnpkckdjmljaaDoorProg
import Derived.Test.YtflnpkckdjmljaaDoorPlain
import Derived.Test.YtflnpkckdjmljaaDoorHex
import Derived.Test.YtflnpkckdjmljaaDoorDigits
import Derived.Test.YtflnpkckdjmljaaDoorSign
import Derived.WalkKit
import Derived.WalkLawsBesides
import Derived.BigQuiet
import Derived.Deep.QuietTactic
import Derived.Lib.Hide
import Derived.IntWalk
namespace Go.Proofs.YtflnpkckdjmljaaDoor
open Go.RowKit
set_option linter.unusedVariables false

def readV (l : List UInt8) : Int := if minusB l then -((Pl.readN 10 18 (unsign l)).getD 0 : Nat) else ((Pl.readN 10 18 (unsign l)).getD 0 : Nat)
def readO (l : List UInt8) : Bool := (Pl.readN 10 18 (unsign l)).isSome

theorem readN_le (l : List UInt8) : (Pl.readN 10 18 l).getD 0 < 1000000000000000000 := by
  unfold Pl.readN
  split
  · rename_i h
    have h1 := Pl.num_lt 10 l h.2.2
    have h2 : 10 ^ l.length ≤ 10 ^ 18 := Nat.pow_le_pow_right (by decide) h.2.1
    exact Nat.lt_of_lt_of_le h1 h2
  · decide

/-! ReadHex -/
theorem readN16_le (l : List UInt8) : (Pl.readN 16 8 l).getD 0 < 4294967296 := by
  unfold Pl.readN
  split
  · rename_i h
    have h1 := Pl.num_lt 16 l h.2.2
    have h2 : 16 ^ l.length ≤ 16 ^ 8 := Nat.pow_le_pow_right (by decide) h.2.1
    exact Nat.lt_of_lt_of_le h1 h2
  · decide

theorem readHex_impl (s : ByteArray) (w : World) :
    Calls Tryd.prog 127 #[.string s] w fun e w' => e = .returned (.int .i64 (orNeg (Pl.readN 16 8 s.data.toList))) ∧ Below w.heap.size w w' := by
  cases hr : Pl.readN 16 8 s.data.toList with
  | none =>
    have HR := Lib.hid hr
    clear hr
    go_enter Tryd.func127, Tryd.ntmps127
    go_wp2_with fail
    refine (readDigits_16 _ _).mono ?_
    rintro e w2 ⟨rfl, hb2⟩
    rw [HR.out, show (none : Option Nat).isSome = false from rfl]
    go_wp2
    go_ret
    exact ⟨rfl, hb2⟩
  | some n =>
    have HR := Lib.hid hr
    clear hr
    go_enter Tryd.func127, Tryd.ntmps127
    go_wp2_with fail
    refine (readDigits_16 _ _).mono ?_
    rintro e w2 ⟨rfl, hb2⟩
    rw [HR.out, show (some n).isSome = true from rfl, show (some n).getD 0 = n from rfl]
    go_wp2
    go_ret
    exact ⟨rfl, hb2⟩

theorem dig_hex (c : UInt8) (h : Pl.okB 16 c = true) :
    ((48 ≤ c.toNat ∧ c.toNat ≤ 57) ∧ (Pl.dig c : Int) = (c.toNat : Int) - 48) ∨ ((97 ≤ c.toNat ∧ c.toNat ≤ 102) ∧ (Pl.dig c : Int) = (c.toNat : Int) - 87) ∨ ((65 ≤ c.toNat ∧ c.toNat ≤ 70) ∧ (Pl.dig c : Int) = (c.toNat : Int) - 55) := by
  have h2 : Pl.dig c < 16 := by simpa [Pl.okB] using h
  unfold Pl.dig at h2 ⊢
  split at h2
  · left; rw [if_pos (by omega)]; omega
  · split at h2
    · right; left; rw [if_neg (by omega), if_pos (by omega)]; omega
    · split at h2
      · right; right; rw [if_neg (by omega), if_neg (by omega), if_pos (by omega)]; omega
      · omega
theorem dig_nohex (c : UInt8) (h : Pl.okB 16 c = false) : c.toNat < 48 ∨ (58 ≤ c.toNat ∧ c.toNat < 65) ∨ (71 ≤ c.toNat ∧ c.toNat < 97) ∨ 103 ≤ c.toNat := by
  have h2 : ¬ Pl.dig c < 16 := by simpa [Pl.okB] using h
  unfold Pl.dig at h2
  split at h2
  · omega
  · split at h2
    · omega
    · split at h2 <;> omega
theorem digit_in (c : UInt8) (w : World) (h : 48 ≤ c.toNat ∧ c.toNat ≤ 57) :
    Calls Tryd.prog 121 #[.int .u8 c.toNat] w fun e w' => e = .returned (.bool true) ∧ w = w' :=
  (digit_any c w).mono fun e w' ⟨he, hw⟩ => ⟨by rw [he, Pl.inB_true (by omega) (by omega)], hw⟩
theorem digit_out (c : UInt8) (w : World) (h : c.toNat < 48 ∨ 57 < c.toNat) :
    Calls Tryd.prog 121 #[.int .u8 c.toNat] w fun e w' => e = .returned (.bool false) ∧ w = w' :=
  (digit_any c w).mono fun e w' ⟨he, hw⟩ => ⟨by rw [he, Pl.inB_false (by omega)], hw⟩

set_option maxHeartbeats 800000 in
theorem readHex_spec (s : ByteArray) (w : World) :
    Calls Tryd.prog 112 #[.string s] w fun e w' => e = .returned (.int .i64 (orNeg (Pl.readN 16 8 s.data.toList))) ∧ w = w' := by
  by_cases hl : (s.size : Int) < 1 ∨ 8 < (s.size : Int)
  · have h3 := Lib.hid (Pl.readN_len 16 8 s (by omega))
    have HL := Lib.hid hl
    clear hl
    go_enter Tryd.func112, Tryd.ntmps112
    go_wp2_with fail
    refine (in_no _ _ _ _ HL.out).mono ?_
    rintro e w' ⟨rfl, rfl⟩
    go_wp2
    go_ret
    exact ⟨by rw [h3.out]; rfl, rfl⟩
  · have hl1 : 1 ≤ (s.size : Int) := by omega
    have hl2 : (s.size : Int) ≤ 8 := by omega
    clear hl
    go_enter Tryd.func112, Tryd.ntmps112
    go_wp2_with fail
    refine (in_yes _ _ _ _ hl1 hl2).mono ?_
    rintro e w' ⟨rfl, rfl⟩
    go_wp2
    go_loop [3, 4] (fun n i => ∃ k v : Nat, k ≤ s.size ∧ i = .int .i64 k ∧ n = .int .i64 v ∧ Pl.Upto 16 s k v) (fun _ i => s.size - (intOf i).toNat)
    case atStart => exact ⟨0, 0, Nat.zero_le _, rfl, rfl, Pl.upto_zero _ _⟩
    case round =>
      obtain ⟨k, v, hk, rfl, rfl, hu⟩ := hrel
      by_cases hp : k < s.size
      · have hcb : s[k].toNat < 256 := s[k].toNat_lt
        cases ho : Pl.okB 16 s[k]
        · have h3 := Lib.hid (Pl.readN_bad 16 8 s k hp ho)
          have hno := Lib.hid (dig_nohex _ ho)
          clear hu ho
          go_wp2_with fail
          refine (digit_out _ _ (by have := hno.out; omega)).mono ?_
          rintro e w' ⟨rfl, rfl⟩
          go_wp2_with fail
          refine (in_no _ _ _ _ (by have := hno.out; omega)).mono ?_
          rintro e w' ⟨rfl, rfl⟩
          go_wp2_with fail
          refine (in_no _ _ _ _ (by have := hno.out; omega)).mono ?_
          rintro e w' ⟨rfl, rfl⟩
          go_wp2
          go_ret
          exact ⟨by rw [h3.out]; rfl, rfl⟩
        · have hu2 := Pl.upto_succ hu hp ho
          have hlt2 := Pl.upto_lt hu2 (by omega)
          have hle2 : 16 ^ (k + 1) ≤ 16 ^ 8 := Nat.pow_le_pow_right (by decide) (by omega)
          have hvb : (v * 16 + Pl.dig s[k]) < 4294967296 := Nat.lt_of_lt_of_le hlt2 hle2
          have hvv : (v : Int) ≤ 4294967296 := by omega
          have hds := dig_hex _ ho
          clear hu ho hlt2 hle2
          rcases hds with ⟨hr, hd⟩ | ⟨hr, hd⟩ | ⟨hr, hd⟩
          · have HD := Lib.hid hd
            clear hd
            go_wp2_with fail
            refine (digit_in _ _ hr).mono ?_
            rintro e w' ⟨rfl, rfl⟩
            go_wp2
            go_round
            case rel => exact ⟨k + 1, v * 16 + Pl.dig s[k], by omega, by go_num, by have := HD.out; go_num, hu2⟩
            case measure => simp [intOf]; omega
          · have HD := Lib.hid hd
            clear hd
            go_wp2_with fail
            refine (digit_out _ _ (by omega)).mono ?_
            rintro e w' ⟨rfl, rfl⟩
            go_wp2_with fail
            refine (in_yes _ _ _ _ (by omega) (by omega)).mono ?_
            rintro e w' ⟨rfl, rfl⟩
            go_wp2
            go_round
            case rel => exact ⟨k + 1, v * 16 + Pl.dig s[k], by omega, by go_num, by have := HD.out; go_num, hu2⟩
            case measure => simp [intOf]; omega
          · have HD := Lib.hid hd
            clear hd
            go_wp2_with fail
            refine (digit_out _ _ (by omega)).mono ?_
            rintro e w' ⟨rfl, rfl⟩
            go_wp2_with fail
            refine (in_no _ _ _ _ (by omega)).mono ?_
            rintro e w' ⟨rfl, rfl⟩
            go_wp2_with fail
            refine (in_yes _ _ _ _ (by omega) (by omega)).mono ?_
            rintro e w' ⟨rfl, rfl⟩
            go_wp2
            go_round
            case rel => exact ⟨k + 1, v * 16 + Pl.dig s[k], by omega, by go_num, by have := HD.out; go_num, hu2⟩
            case measure => simp [intOf]; omega
      · obtain rfl : k = s.size := by omega
        have h3 := Lib.hid (Pl.upto_all (most := 8) hu (by omega) (by omega))
        clear hu
        go_wp2
        go_ret
        exact ⟨by rw [h3.out]; rfl, rfl⟩

end Go.Proofs.YtflnpkckdjmljaaDoor
