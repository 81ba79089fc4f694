/- The contract of the model's DecText: the decimal numeral. -/
import Derived.Test.YtkhkpjnpjgnckaaGreatDoorProg
import Derived.Test.YtkhkpjnpjgnckaaGreatDoorPlain
import Derived.WalkKit
import Derived.WalkLawsBesides
import Derived.BigQuiet
import Derived.Deep.QuietTactic
import Derived.Lib.Hide
import Derived.Lib.ItoaNum
import Derived.Lib.ItoaLen
import Derived.IntWalk
namespace Go.Proofs.YtkhkpjnpjgnckaaGreatDoor
open Go.RowKit
set_option linter.unusedVariables false

/-- a digit's byte -/
def digC (r : Nat) : UInt8 := UInt8.ofNat (48 + r)
/-- the numeral of a number, none for 0 -/
def decD (q : Nat) : List UInt8 := if q = 0 then [] else Lib.decDigits q
theorem decD_step (q : Nat) (h : 0 < q) : decD q = decD (q / 10) ++ [digC (q % 10)] := by
  unfold decD digC
  rw [if_neg (by omega)]
  by_cases h10 : q < 10
  · rw [Lib.decDigits, dif_pos h10, if_pos (by omega)]
    rw [Nat.mod_eq_of_lt h10]
    rfl
  · rw [Lib.decDigits, dif_neg h10, if_neg (by omega)]
/-- what is left to write, and what is written -/
def DecAt (u q : Nat) (o : List UInt8) : Prop := decD u = decD q ++ o ∧ q ≤ u ∧ o.length + q ≤ u + 1 ∧ (o.length ≤ 20 ∨ True)
theorem decLen (u : Nat) (hu : u ≤ 9223372036854775808) : (decD u).length ≤ 20 := by
  unfold decD
  split
  · simp
  · rename_i h
    have : (Lib.itoa (-(u : Int))).length ≤ 21 := Lib.itoa_length_le _ (by omega) (by omega)
    unfold Lib.itoa at this
    rw [if_pos (by omega)] at this
    simp at this
    omega
abbrev decS : ByteArray := ⟨#[48, 49, 50, 51, 52, 53, 54, 55, 56, 57]⟩
theorem decS_cut_all : ∀ r, r < 10 → decS.extract r (r + 1) = ⟨#[digC r]⟩ := by decide +kernel
theorem dec_slice (r : Nat) (hr : r < 10) (w : World) : (Instr.slice 9 (.string ⟨#[48, 49, 50, 51, 52, 53, 54, 55, 56, 57]⟩) (some (.int .i64 (r : Int))) (some (.int .i64 ((r : Int) + 1))) none).run Tryz.prog w = .ok (.string ⟨#[digC r]⟩) w := by
  rw [run_slice_string (h := Tryz.underlying9) (h0 := by omega) (h1 := by omega) (h2 := by show _ ≤ (10 : Int); omega)]
  have e1 : ((r : Int)).toNat = r := by omega
  have e2 : ((r : Int) + 1).toNat = r + 1 := by omega
  rw [e1, e2, decS_cut_all r hr]

theorem tmod_neg (q : Nat) : (-(q : Int)).tmod 10 = -((q % 10 : Nat) : Int) := by
  rw [Int.neg_tmod, Int.tmod_eq_emod_of_nonneg (by omega)]; omega
theorem tdiv_neg (q : Nat) : (-(q : Int)).tdiv 10 = -((q / 10 : Nat) : Int) := by
  rw [Int.neg_tdiv, Int.tdiv_eq_ediv_of_nonneg (by omega)]; omega

end Go.Proofs.YtkhkpjnpjgnckaaGreatDoor
