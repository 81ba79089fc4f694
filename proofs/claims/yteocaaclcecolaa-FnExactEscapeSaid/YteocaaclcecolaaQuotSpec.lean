/- Values between quotes: the model's contracts of l05Behind, Quoted. -/
import Derived.Test.YteocaaclcecolaaProg
import Derived.Test.YteocaaclcecolaaPlain
import Derived.Test.YteocaaclcecolaaCut
import Derived.Test.YteocaaclcecolaaTrim
import Derived.Test.YteocaaclcecolaaTail
import Derived.Test.YteocaaclcecolaaDialectRows
import Derived.Test.YteocaaclcecolaaUnescSpec
import Derived.Test.YteocaaclcecolaaBareSpec
import Derived.WalkKit
import Derived.WalkLawsBesides
import Derived.BigQuiet
import Derived.Deep.QuietTactic
import Derived.Lib.QuietBelow
import Derived.Laws.IdiomStrings
import Derived.Lib.Hide
import Derived.IntWalk
namespace Go.Proofs.Yteocaaclcecolaa
open Go.RowKit Go.Sort
set_option linter.unusedVariables false

/-- a text trimmed -/
def trimT (s : ByteArray) : ByteArray := ⟨(trimL s.data.toList).toArray⟩
theorem trimS_len (l m : List UInt8) : (Lib.trimS l m).length ≤ l.length := by
  unfold Lib.trimS Lib.trimRightS Lib.trimLeftS
  refine Nat.le_trans (List.dropWhile_sublist _).length_le ?_
  simp only [List.length_reverse]
  have := (List.dropWhile_sublist (fun x => m.contains x) (l := l.reverse)).length_le
  rw [List.length_reverse] at this
  exact this
theorem trimT_size (s : ByteArray) : (trimT s).size ≤ s.size := by
  unfold trimT trimL
  rw [Lib.size_eq, Lib.size_eq]
  simpa using trimS_len s.data.toList [32, 9]
/-- what may stand behind something that is closed -/
def behind5 (d : DialectD) (s : ByteArray) : Bool := if h : 0 < (trimT s).size then d.inl && (if h2 : 0 < s.size then blankB s[0] else false) && hasB d.notes (trimT s)[0] else true
theorem text_none (x : ByteArray) (h : x.size = 0) : (x.toList == []) = true ∧ x.toList.isEmpty = true := by
  have : x.toList = [] := by
    rw [Lib.toList_data]
    apply List.eq_nil_of_length_eq_zero
    rw [← Lib.size_eq]
    exact h
  rw [this]
  exact ⟨rfl, rfl⟩
theorem text_some (x : ByteArray) (h : 0 < x.size) : (x.toList == []) = false ∧ x.toList.isEmpty = false := by
  rw [Lib.toList_data]
  cases hl : x.data.toList with
  | nil =>
    have h2 := Lib.size_eq x
    rw [hl, List.length_nil] at h2
    omega
  | cons c t => exact ⟨rfl, rfl⟩

/-- a quote that closes, at place i -/
def clos5 (e : Bool) (s : ByteArray) (i : Nat) : Bool := if h : 1 ≤ i ∧ i < s.size then (s[i]'h.2) == 34 && (!e || tailN (s.extract 1 i) % 2 == 0) else false
/-- where the text between the quotes ends -/
def close5 (e : Bool) (s : ByteArray) : Nat := (List.range s.size).findIdx (clos5 e s)
/-- begins with a quote -/
def opens (s : ByteArray) : Bool := if h : 0 < s.size then s[0] == 34 else false
/-- what Quoted answers -/
def quotT (d : DialectD) (s : ByteArray) : ByteArray × Bool :=
  if opens s = true ∧ close5 d.esc s < s.size then (if behind5 d (s.extract (close5 d.esc s + 1) s.size) then unT d.esc (s.extract 1 (close5 d.esc s)) else (⟨#[]⟩, false)) else (⟨#[]⟩, false)

end Go.Proofs.Yteocaaclcecolaa
