/- Settings for a shell, as lists: how a value is escaped. -/
import Derived.Test.YtkhkpjnpjgnckaaGreatDoorProg
import Derived.Test.YtkhkpjnpjgnckaaGreatDoorPlain
set_option maxRecDepth 100000
namespace Go.Proofs.YtkhkpjnpjgnckaaGreatDoor
open Go.RowKit
set_option linter.unusedVariables false

/-- a byte of a value, between double quotes -/
def escVC (c : UInt8) : List UInt8 := if c = 10 then [92, 110] else if c = 9 then [92, 116] else if c = 13 then [92, 114] else if c = 92 ∨ c = 34 ∨ c = 36 then [92, c] else [c]
def escVL (l : List UInt8) : List UInt8 := l.flatMap escVC
def escVT (s : ByteArray) : ByteArray := ⟨(escVL s.data.toList).toArray⟩
theorem escVC_len (c : UInt8) : (escVC c).length ≤ 2 := by
  unfold escVC
  repeat' split
  all_goals simp
theorem escVL_len (l : List UInt8) : (escVL l).length ≤ 2 * l.length := by
  induction l with
  | nil => simp [escVL]
  | cons c l ih =>
    have := escVC_len c
    simp only [escVL, List.flatMap_cons, List.length_append, List.length_cons] at ih ⊢
    omega
theorem escVT_size (s : ByteArray) : (escVT s).size ≤ 2 * s.size := by
  have := escVL_len s.data.toList
  rw [← Lib.size_eq] at this
  rw [Lib.size_eq]
  simpa [escVT] using this
theorem escVL_cons (c : UInt8) (l : List UInt8) : escVL (c :: l) = escVC c ++ escVL l := by simp [escVL]

end Go.Proofs.YtkhkpjnpjgnckaaGreatDoor
