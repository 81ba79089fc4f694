/- A bare value: the program's small functions. -/
import Derived.Test.YteocaaclcecolaaProg
import Derived.Test.YteocaaclcecolaaPlain
import Derived.Test.YteocaaclcecolaaCut
import Derived.Test.YteocaaclcecolaaTrim
import Derived.Test.YteocaaclcecolaaTrimLeft
import Derived.Test.YteocaaclcecolaaTail
import Derived.Test.YteocaaclcecolaaDialectRows
import Derived.Test.YteocaaclcecolaaUnescSpec
import Derived.Test.YteocaaclcecolaaBareSpec
import Derived.WalkKit
import Derived.WalkLawsBesides
import Derived.BigQuiet
import Derived.Deep.QuietTactic
import Derived.Lib.QuietBelow
import Derived.Laws.IdiomStrings
import Derived.Lib.Hide
import Derived.IntWalk
set_option maxRecDepth 100000
namespace Go.Proofs.Yteocaaclcecolaa
open Go.RowKit Go.Sort
set_option linter.unusedVariables false

abbrev blanksB : ByteArray := ⟨#[32, 9]⟩
theorem ascii_blanks : ∀ (j : Nat) (b : UInt8), blanksB.data.toList[j]? = some b → b.toNat < 128 := by
  intro j b h
  match j, h with
  | 0, h => simp at h; subst h; decide
  | 1, h => simp at h; subst h; decide
theorem dropWhile_len (p : UInt8 → Bool) (l : List UInt8) : l.dropWhile p = l.drop (l.takeWhile p).length := by
  induction l with
  | nil => rfl
  | cons c l ih =>
    cases h : p c
    · simp [List.dropWhile_cons, List.takeWhile_cons, h]
    · simp [List.dropWhile_cons, List.takeWhile_cons, h, ih]
/-- what stands behind the blanks at the start -/
def start5 (s : ByteArray) : ByteArray := s.extract (front5 s) s.size
theorem start5_list (s : ByteArray) : (⟨(Lib.trimLeftS s.data.toList [32, 9]).toArray⟩ : ByteArray) = start5 s := by
  unfold start5 front5
  rw [Lib.extract_eq]
  congr 2
  unfold Lib.trimLeftS
  have hp : (fun x => List.contains [32, 9] x) = blankB := by funext x; exact blank_set x
  rw [hp, dropWhile_len]
  rw [Lib.size_eq, List.take_of_length_le (by simp)]
theorem start5_size (s : ByteArray) : (start5 s).size = s.size - front5 s := by
  unfold start5
  rw [ByteArray.size_extract]
  omega
/-- a byte that a byte 92 ahead of it turns -/
def esc5 (e : Bool) (s : ByteArray) (i : Nat) : Bool := e && tailN (s.extract 0 i) % 2 == 1
/-- a text that ends with a blank that is not meant -/
def ends5 (e : Bool) (s : ByteArray) : Bool := if h : 0 < s.size then blankB (s[s.size - 1]'(by omega)) && !esc5 e s (s.size - 1) else false
end Go.Proofs.Yteocaaclcecolaa
