/- Contracts of the functions that read numbers with a sign. -/
import Derived.Test.YtflnpkckdjmljaaDoorProg
import Derived.Test.YtflnpkckdjmljaaDoorPlain
import Derived.Test.YtflnpkckdjmljaaDoorHex
import Derived.Test.YtflnpkckdjmljaaDoorDigits
import Derived.WalkKit
import Derived.WalkLawsBesides
import Derived.BigQuiet
import Derived.Deep.QuietTactic
import Derived.Lib.Hide
import Derived.IntWalk
namespace Go.Proofs.YtflnpkckdjmljaaDoor
open Go.RowKit
set_option linter.unusedVariables false

def minusB : List UInt8 → Bool
  | [] => false
  | c :: _ => c == 45
def unsign : List UInt8 → List UInt8
  | [] => []
  | c :: t => if c = 45 ∨ c = 43 then t else c :: t

theorem digit_any (c : UInt8) (w : World) :
    Calls Tryd.prog 121 #[.int .u8 c.toNat] w fun e w' => e = .returned (.bool (Pl.inB c.toNat 48 57)) ∧ w = w' := by
  have hc : c.toNat < 256 := c.toNat_lt
  go_enter Tryd.func121, Tryd.ntmps121
  go_wp2_with fail
  refine (in_any _ _ _ _).mono ?_
  rintro e w' ⟨rfl, rfl⟩
  go_wp2
  go_ret
  exact ⟨rfl, rfl⟩

theorem digit_yes (c : UInt8) (w : World) (h : Pl.okB 10 c = true) :
    Calls Tryd.prog 121 #[.int .u8 c.toNat] w fun e w' => e = .returned (.bool true) ∧ w = w' :=
  (digit_any c w).mono fun e w' ⟨he, hw⟩ => ⟨by
    have h2 : Pl.dig c < 10 := by simpa [Pl.okB] using h
    have h3 : 48 ≤ c.toNat ∧ c.toNat ≤ 57 := by
      unfold Pl.dig at h2
      split at h2
      · assumption
      · split at h2
        · omega
        · split at h2 <;> omega
    rw [he, Pl.inB_true (by omega) (by omega)], hw⟩
theorem dig_ten (c : UInt8) (h : Pl.okB 10 c = true) : (Pl.dig c : Int) = (c.toNat : Int) - 48 ∧ 48 ≤ c.toNat ∧ c.toNat ≤ 57 := by
  have h2 : Pl.dig c < 10 := by simpa [Pl.okB] using h
  unfold Pl.dig at h2 ⊢
  split at h2
  · rw [if_pos (by omega)]; omega
  · split at h2
    · omega
    · split at h2 <;> omega
theorem digit_no (c : UInt8) (w : World) (h : Pl.okB 10 c = false) :
    Calls Tryd.prog 121 #[.int .u8 c.toNat] w fun e w' => e = .returned (.bool false) ∧ w = w' :=
  (digit_any c w).mono fun e w' ⟨he, hw⟩ => ⟨by
    have h2 : ¬ Pl.dig c < 10 := by simpa [Pl.okB] using h
    have h3 : ¬ (48 ≤ c.toNat ∧ c.toNat ≤ 57) := by
      intro h3
      apply h2
      unfold Pl.dig
      rw [if_pos h3]
      omega
    rw [he, Pl.inB_false (by omega)], hw⟩

def orNeg : Option Nat → Int
  | none => -1
  | some n => n

end Go.Proofs.YtflnpkckdjmljaaDoor
