/- Contracts of the functions that read numbers with a sign. -/
import Derived.Test.YtkhcdopnohbieaaDoorProg
import Derived.Test.YtkhcdopnohbieaaDoorPlain
import Derived.Test.YtkhcdopnohbieaaDoorHex
import Derived.Test.YtkhcdopnohbieaaDoorDigits
import Derived.WalkKit
import Derived.WalkLawsBesides
import Derived.BigQuiet
import Derived.Deep.QuietTactic
import Derived.Lib.Hide
import Derived.IntWalk
namespace Go.Proofs.YtkhcdopnohbieaaDoor
open Go.RowKit
set_option linter.unusedVariables false

def minusB : List UInt8 → Bool
  | [] => false
  | c :: _ => c == 45
def unsign : List UInt8 → List UInt8
  | [] => []
  | c :: t => if c = 45 ∨ c = 43 then t else c :: t

theorem cutSign_any (s : ByteArray) (w : World) (hs : s.size ≤ maxLen) :
    Calls Tryd.prog 31 #[.string s] w fun e w' => e = .returned (.tuple #[.string ⟨(unsign s.data.toList).toArray⟩, .bool (minusB s.data.toList)]) ∧ w = w' := by
  unfold maxLen at hs
  by_cases h0 : s.size = 0
  · have hz : (s.size : Int) < 1 := by omega
    have h1 : Hid (s.data.toList = []) := by unfold Hid; apply List.eq_nil_of_length_eq_zero; simpa using h0
    have h2 : Hid (s = ⟨#[]⟩) := by unfold Hid; apply ByteArray.ext; apply Array.toList_inj.1; exact h1.out
    clear h0
    go_enter Tryd.func31, Tryd.ntmps31
    go_wp2
    go_ret2
    exact ⟨by rw [h1.out, h2.out]; rfl, rfl⟩
  · obtain ⟨c, t, hct⟩ : ∃ c t, s.data.toList = c :: t := by
      cases h : s.data.toList with
      | nil => exfalso; apply h0; have := congrArg List.length h; simpa using this
      | cons c t => exact ⟨c, t, rfl⟩
    have h1 : 1 ≤ (s.size : Int) := by omega
    have hx : (s.extract 0 1).toList = [c] := by rw [Lib.extract_toList, hct]; simp
    have hd : Hid (s.extract 1 s.size = ⟨t.toArray⟩) := by
      unfold Hid
      rw [Lib.extract_eq, hct]
      have : t.length ≤ s.size - 1 := by have := congrArg List.length hct; simp at this; omega
      simp [List.take_of_length_le this]
    have hall : Hid (s = ⟨(c :: t).toArray⟩) := by unfold Hid; rw [← hct]
    have HC := Lib.hid hct
    clear hct h0
    by_cases hm : c = 45
    · have hb1 : ((s.extract 0 1).toList == [45]) = true := by rw [hx, hm]; rfl
      have HM := Lib.hid hm
      clear hx hm
      go_enter Tryd.func31, Tryd.ntmps31
      go_wp2
      go_ret2
      exact ⟨by rw [HC.out]; simp only [unsign, minusB, HM.out, hd.out]; rfl, rfl⟩
    · by_cases hp : c = 43
      · have hb1 : ((s.extract 0 1).toList == [45]) = false := by rw [hx]; simp [hm]
        have hb2 : ((s.extract 0 1).toList == [43]) = true := by rw [hx, hp]; rfl
        have HM := Lib.hid hp
        clear hx hm hp
        go_enter Tryd.func31, Tryd.ntmps31
        go_wp2
        go_ret2
        exact ⟨by rw [HC.out]; simp only [unsign, minusB, HM.out, hd.out]; rfl, rfl⟩
      · have hb1 : ((s.extract 0 1).toList == [45]) = false := by rw [hx]; simp [hm]
        have hb2 : ((s.extract 0 1).toList == [43]) = false := by rw [hx]; simp [hp]
        have HM := Lib.hid hp
        have HN := Lib.hid hm
        clear hx hm hp
        go_enter Tryd.func31, Tryd.ntmps31
        go_wp2
        go_ret2
        refine ⟨?_, rfl⟩
        rw [HC.out]
        have e1 : unsign (c :: t) = c :: t := by simp [unsign, HM.out, HN.out]
        have e2 : minusB (c :: t) = false := by simp [minusB, HN.out]
        rw [e1, e2, ← hall.out]
        rfl

theorem dig_ten (c : UInt8) (h : Pl.okB 10 c = true) : (Pl.dig c : Int) = (c.toNat : Int) - 48 ∧ 48 ≤ c.toNat ∧ c.toNat ≤ 57 := by
  have h2 : Pl.dig c < 10 := by simpa [Pl.okB] using h
  unfold Pl.dig at h2 ⊢
  split at h2
  · rw [if_pos (by omega)]; omega
  · split at h2
    · omega
    · split at h2 <;> omega
def orNeg : Option Nat → Int
  | none => -1
  | some n => n

end Go.Proofs.YtkhcdopnohbieaaDoor
