/- Escapes put, as lists. -/
import Derived.Test.YtkhkpjnpjgnckaaDoorProg
import Derived.Test.YtkhkpjnpjgnckaaDoorPlain
import Derived.Test.YtkhkpjnpjgnckaaDoorCut
set_option maxRecDepth 100000
namespace Go.Proofs.YtkhkpjnpjgnckaaDoor
open Go.RowKit
set_option linter.unusedVariables false

/-- the escapes of a byte -/
def escC (n : ByteArray) (c : UInt8) : List UInt8 := if c = 10 then [92, 110] else if c = 9 then [92, 116] else if c = 13 then [92, 114] else if (c == 92 || c == 34 || hasB n c) = true then [92, c] else [c]
def escL (n : ByteArray) (l : List UInt8) : List UInt8 := l.flatMap (escC n)
theorem escC_len (n : ByteArray) (c : UInt8) : (escC n c).length ≤ 2 := by
  unfold escC
  repeat' split
  all_goals simp
theorem escL_len (n : ByteArray) (l : List UInt8) : (escL n l).length ≤ 2 * l.length := by
  induction l with
  | nil => simp [escL]
  | cons c l ih =>
    have := escC_len n c
    simp only [escL, List.flatMap_cons, List.length_append, List.length_cons] at ih ⊢
    omega
theorem escL_succ (n : ByteArray) (s : ByteArray) (k : Nat) (h : k < s.size) : escL n (s.data.toList.take (k + 1)) = escL n (s.data.toList.take k) ++ escC n s[k] := by
  rw [Pl.take_snoc s k h]
  simp [escL]


end Go.Proofs.YtkhkpjnpjgnckaaDoor
