/- Environment files: leading blanks, names. The model's l08Lead, l01Letter, l01Digit, NameOk. -/
import Derived.Test.YtkhkpjnpjgnckaaProg
import Derived.Test.YtkhkpjnpjgnckaaPlain
import Derived.Test.YtkhkpjnpjgnckaaTrim
import Derived.WalkKit
import Derived.WalkLawsBesides
import Derived.BigQuiet
import Derived.Deep.QuietTactic
import Derived.Lib.QuietBelow
import Derived.Laws.IdiomStrings
import Derived.Lib.Hide
import Derived.IntWalk
set_option maxRecDepth 100000
namespace Go.Proofs.Ytkhkpjnpjgnckaa
open Go.RowKit Go.Sort
set_option linter.unusedVariables false
set_option linter.unusedSimpArgs false

theorem text_noneE (x : ByteArray) (h : x.size = 0) : (x.toList == []) = true ∧ x.toList.isEmpty = true := by
  have : x.toList = [] := by
    rw [Lib.toList_data]
    apply List.eq_nil_of_length_eq_zero
    rw [← Lib.size_eq]
    exact h
  rw [this]
  exact ⟨rfl, rfl⟩
theorem text_someE (x : ByteArray) (h : 0 < x.size) : (x.toList == []) = false ∧ x.toList.isEmpty = false := by
  rw [Lib.toList_data]
  cases hl : x.data.toList with
  | nil =>
    have h2 := Lib.size_eq x
    rw [hl, List.length_nil] at h2
    omega
  | cons c t => exact ⟨rfl, rfl⟩
theorem head_tailE (z : ByteArray) (h : 0 < z.size) : z.data.toList = z[0] :: (z.extract 1 z.size).data.toList := by
  have hl : 0 < z.data.toList.length := by rw [← Lib.size_eq]; exact h
  have h1 : (z.extract 1 z.size).data.toList = z.data.toList.drop 1 := by
    rw [Lib.extract_eq]
    simp only [Lib.size_eq]
    rw [List.take_of_length_le (by simp)]
  rw [h1]
  conv => lhs; rw [← List.drop_zero (l := z.data.toList), List.drop_eq_getElem_cons hl]
  rfl
/-- a text without the gaps at its beginning -/
def leadE (s : ByteArray) : ByteArray := ⟨(s.data.toList.dropWhile blankB).toArray⟩
theorem leadE_none (z : ByteArray) (h : z.size = 0) : leadE z = z := by
  have : z.data.toList = [] := by apply List.eq_nil_of_length_eq_zero; rw [← Lib.size_eq]; exact h
  apply ByteArray.ext
  apply Array.toList_inj.1
  show z.data.toList.dropWhile blankB = z.data.toList
  rw [this]
  rfl
theorem leadE_here (z : ByteArray) (h : 0 < z.size) (hb : blankB z[0] = false) : leadE z = z := by
  apply ByteArray.ext
  apply Array.toList_inj.1
  show z.data.toList.dropWhile blankB = z.data.toList
  rw [head_tailE z h, List.dropWhile_cons_of_neg (by simp [hb])]
theorem leadE_on (z : ByteArray) (h : 0 < z.size) (hb : blankB z[0] = true) : leadE (z.extract 1 z.size) = leadE z := by
  apply ByteArray.ext
  apply Array.toList_inj.1
  show (z.extract 1 z.size).data.toList.dropWhile blankB = z.data.toList.dropWhile blankB
  rw [head_tailE z h, List.dropWhile_cons_of_pos hb]
theorem leadE_size (z : ByteArray) : (leadE z).size ≤ z.size := by
  rw [Lib.size_eq, Lib.size_eq]
  exact (List.dropWhile_sublist _).length_le
def textLenE (v : Value) : Nat := match v with | .string z => z.size | _ => 0
/-- letters and digits -/
def letterB (c : UInt8) : Bool := (decide (65 ≤ (c.toNat : Int)) && decide ((c.toNat : Int) ≤ 90)) || (decide (97 ≤ (c.toNat : Int)) && decide ((c.toNat : Int) ≤ 122))
def digitB (c : UInt8) : Bool := decide (48 ≤ (c.toNat : Int)) && decide ((c.toNat : Int) ≤ 57)
/-- a name's bytes, from a place on -/
def nameAt (s : ByteArray) (k : Nat) : Bool := if h : k < s.size then letterB s[k] || s[k] == 95 || (decide (0 < k) && digitB s[k]) else true
def nameTo (s : ByteArray) : Nat → Bool
  | 0 => true
  | k + 1 => nameTo s k && nameAt s k
theorem nameTo_false {s : ByteArray} {k : Nat} (h : nameTo s (k + 1) = false) : ∀ m, k + 1 ≤ m → nameTo s m = false := by
  intro m hm
  induction m with
  | zero => omega
  | succ m ih =>
    by_cases e : m = k
    · rw [e]; exact h
    · show (nameTo s m && nameAt s m) = false
      rw [ih (by omega)]; rfl
/-- is it a name -/
def nameB (s : ByteArray) : Bool := nameTo s s.size && (decide (1 ≤ (s.size : Int)) && decide ((s.size : Int) ≤ 40))
end Go.Proofs.Ytkhkpjnpjgnckaa
