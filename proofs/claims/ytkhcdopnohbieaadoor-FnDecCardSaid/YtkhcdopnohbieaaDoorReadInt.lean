/- Contracts of the functions ReadInt and ReadHex, and the walks of their exact laws. -/
import Derived.Test.YtkhcdopnohbieaaDoorProg
import Derived.Test.YtkhcdopnohbieaaDoorPlain
import Derived.Test.YtkhcdopnohbieaaDoorHex
import Derived.Test.YtkhcdopnohbieaaDoorDigits
import Derived.Test.YtkhcdopnohbieaaDoorSign
import Derived.WalkKit
import Derived.WalkLawsBesides
import Derived.BigQuiet
import Derived.Deep.QuietTactic
import Derived.Lib.Hide
import Derived.IntWalk
namespace Go.Proofs.YtkhcdopnohbieaaDoor
open Go.RowKit
set_option linter.unusedVariables false

def readV (l : List UInt8) : Int := if minusB l then -((Pl.readN 10 18 (unsign l)).getD 0 : Nat) else ((Pl.readN 10 18 (unsign l)).getD 0 : Nat)
def readO (l : List UInt8) : Bool := (Pl.readN 10 18 (unsign l)).isSome

theorem readN_le (l : List UInt8) : (Pl.readN 10 18 l).getD 0 < 1000000000000000000 := by
  unfold Pl.readN
  split
  · rename_i h
    have h1 := Pl.num_lt 10 l h.2.2
    have h2 : 10 ^ l.length ≤ 10 ^ 18 := Nat.pow_le_pow_right (by decide) h.2.1
    exact Nat.lt_of_lt_of_le h1 h2
  · decide

theorem readInt_impl (s : ByteArray) (w : World) (hs : s.size ≤ maxLen) :
    Calls Tryd.prog 15 #[.string s] w fun e w' => e = .returned (.tuple #[.int .i64 (readV s.data.toList), .bool (readO s.data.toList)]) ∧ Below w.heap.size w w' := by
  have hb := readN_le (unsign s.data.toList)
  go_enter Tryd.func15, Tryd.ntmps15
  go_wp2_with fail
  refine (cutSign_any s _ hs).mono ?_
  rintro e w' ⟨rfl, rfl⟩
  cases hm : minusB s.data.toList
  · have h3 : Hid (readV s.data.toList = ((Pl.readN 10 18 (unsign s.data.toList)).getD 0 : Nat)) := by unfold Hid readV; rw [hm]; rfl
    have h4 : Hid (readO s.data.toList = (Pl.readN 10 18 (unsign s.data.toList)).isSome) := rfl
    clear hm
    go_wp2_with fail
    refine (readDigits_10 _ _).mono ?_
    rintro e w2 ⟨rfl, hb2⟩
    simp only [List.toList_toArray]
    generalize (Pl.readN 10 18 (unsign s.data.toList)) = r at *
    generalize r.getD 0 = v at *
    generalize r.isSome = o at *
    go_wp2
    go_ret2
    exact ⟨by rw [h3.out, h4.out]; rfl, hb2⟩
  · have h3 : Hid (readV s.data.toList = -((Pl.readN 10 18 (unsign s.data.toList)).getD 0 : Nat)) := by unfold Hid readV; rw [hm]; rfl
    have h4 : Hid (readO s.data.toList = (Pl.readN 10 18 (unsign s.data.toList)).isSome) := rfl
    clear hm
    go_wp2_with fail
    refine (readDigits_10 _ _).mono ?_
    rintro e w2 ⟨rfl, hb2⟩
    simp only [List.toList_toArray]
    generalize (Pl.readN 10 18 (unsign s.data.toList)) = r at *
    generalize r.getD 0 = v at *
    generalize r.isSome = o at *
    go_wp2
    go_ret2
    exact ⟨by rw [h3.out, h4.out]; rfl, hb2⟩

/-! ReadHex -/
theorem readN16_le (l : List UInt8) : (Pl.readN 16 8 l).getD 0 < 4294967296 := by
  unfold Pl.readN
  split
  · rename_i h
    have h1 := Pl.num_lt 16 l h.2.2
    have h2 : 16 ^ l.length ≤ 16 ^ 8 := Nat.pow_le_pow_right (by decide) h.2.1
    exact Nat.lt_of_lt_of_le h1 h2
  · decide

theorem readHex_impl (s : ByteArray) (w : World) :
    Calls Tryd.prog 14 #[.string s] w fun e w' => e = .returned (.int .i64 (orNeg (Pl.readN 16 8 s.data.toList))) ∧ Below w.heap.size w w' := by
  cases hr : Pl.readN 16 8 s.data.toList with
  | none =>
    have HR := Lib.hid hr
    clear hr
    go_enter Tryd.func14, Tryd.ntmps14
    go_wp2_with fail
    refine (readDigits_16 _ _).mono ?_
    rintro e w2 ⟨rfl, hb2⟩
    rw [HR.out, show (none : Option Nat).isSome = false from rfl]
    go_wp2
    go_ret
    exact ⟨rfl, hb2⟩
  | some n =>
    have HR := Lib.hid hr
    clear hr
    go_enter Tryd.func14, Tryd.ntmps14
    go_wp2_with fail
    refine (readDigits_16 _ _).mono ?_
    rintro e w2 ⟨rfl, hb2⟩
    rw [HR.out, show (some n).isSome = true from rfl, show (some n).getD 0 = n from rfl]
    go_wp2
    go_ret
    exact ⟨rfl, hb2⟩

theorem dig_hex (c : UInt8) (h : Pl.okB 16 c = true) :
    ((48 ≤ c.toNat ∧ c.toNat ≤ 57) ∧ (Pl.dig c : Int) = (c.toNat : Int) - 48) ∨ ((97 ≤ c.toNat ∧ c.toNat ≤ 102) ∧ (Pl.dig c : Int) = (c.toNat : Int) - 87) ∨ ((65 ≤ c.toNat ∧ c.toNat ≤ 70) ∧ (Pl.dig c : Int) = (c.toNat : Int) - 55) := by
  have h2 : Pl.dig c < 16 := by simpa [Pl.okB] using h
  unfold Pl.dig at h2 ⊢
  split at h2
  · left; rw [if_pos (by omega)]; omega
  · split at h2
    · right; left; rw [if_neg (by omega), if_pos (by omega)]; omega
    · split at h2
      · right; right; rw [if_neg (by omega), if_neg (by omega), if_pos (by omega)]; omega
      · omega
theorem dig_nohex (c : UInt8) (h : Pl.okB 16 c = false) : c.toNat < 48 ∨ (58 ≤ c.toNat ∧ c.toNat < 65) ∨ (71 ≤ c.toNat ∧ c.toNat < 97) ∨ 103 ≤ c.toNat := by
  have h2 : ¬ Pl.dig c < 16 := by simpa [Pl.okB] using h
  unfold Pl.dig at h2
  split at h2
  · omega
  · split at h2
    · omega
    · split at h2 <;> omega
end Go.Proofs.YtkhcdopnohbieaaDoor
