/- Lists of Rec that come in: their copy, their size. -/
import Derived.Test.YtkhkpjnpjgnckaaGreatDoorProg
import Derived.Test.YtkhkpjnpjgnckaaGreatDoorPlain
import Derived.Test.YtkhkpjnpjgnckaaGreatDoorTexts
import Derived.Test.YtkhkpjnpjgnckaaGreatDoorRows0
import Derived.Test.YtkhkpjnpjgnckaaGreatDoorRecRows
import Derived.WalkKit
import Derived.WalkLawsBesides
import Derived.OwnWalk
import Derived.BigQuiet
import Derived.Deep.QuietTactic
import Derived.Lib.QuietBelow
import Derived.Laws.IdiomStrings
import Derived.Lib.Hide
import Derived.IntWalk
namespace Go.Proofs.YtkhkpjnpjgnckaaGreatDoor
open Go.RowKit Go.Sort
set_option linter.unusedVariables false

def noRec : RecD := ⟨0, ByteArray.empty, ByteArray.empty, ByteArray.empty, ByteArray.empty, 0⟩
theorem info_rec : (Tryz.prog.info? 35).map (fun i => (i.zero, i.size, i.bytes)) = some (some (recV noRec), 6, 80) := by kernel_rfl
theorem made_rec (k : Nat) : (madeCells (Value.cells (recV noRec)) (k * 6)).toList = rowCells recS (List.replicate k noRec) := made_rows recS (recV noRec) noRec rfl k


/-! how large they are -/
def sizeRec (x : RecD) : Nat := x.raw.size + x.sect.size + x.key.size + x.value.size
def costRec (l : List RecD) : Nat := l.length + (l.map sizeRec).sum
theorem costRec_nil : costRec [] = 0 := rfl
theorem costRec_take_succ (l : List RecD) (k : Nat) (h : k < l.length) : costRec (l.take (k + 1)) = costRec (l.take k) + 1 + sizeRec l[k] := by
  rw [List.take_succ_eq_append_getElem h]
  simp only [costRec, List.length_append, List.map_append, List.sum_append, List.map_cons, List.map_nil, List.sum_cons, List.sum_nil, List.length_cons, List.length_nil]
  omega
theorem costRec_take (l : List RecD) (k : Nat) (h : k ≤ l.length) : costRec (l.take k) + (l.length - k) ≤ costRec l := by
  have h1 : costRec l = costRec (l.take k) + costRec (l.drop k) := by
    conv => lhs; rw [← List.take_append_drop k l]
    simp only [costRec, List.length_append, List.map_append, List.sum_append]
    omega
  have h2 : l.length - k ≤ costRec (l.drop k) := by unfold costRec; rw [List.length_drop]; omega
  omega
theorem costRec_at (l : List RecD) (k : Nat) (h : k < l.length) : sizeRec l[k] + l.length ≤ costRec l := by
  have h1 := costRec_take_succ l k h
  have h2 := costRec_take l (k + 1) h
  have h3 : k ≤ costRec (l.take k) := by unfold costRec; rw [List.length_take]; omega
  omega
/-- its texts are no longer than a text may be -/
def fitsRec (x : RecD) : Prop := (-9223372036854775808 ≤ x.kind ∧ x.kind ≤ 9223372036854775807) ∧ x.raw.size ≤ maxLen ∧ x.sect.size ≤ maxLen ∧ x.key.size ≤ maxLen ∧ x.value.size ≤ maxLen ∧ (-9223372036854775808 ≤ x.line ∧ x.line ≤ 9223372036854775807)

/-- what is left of a bound behind a list: -1 where it is too large -/
def SzRec (c : Nat) (left : Int) (z : Int) : Prop := (z = -1 ∧ left < (c : Int)) ∨ (0 ≤ z ∧ z + (c : Int) = left)

end Go.Proofs.YtkhkpjnpjgnckaaGreatDoor
