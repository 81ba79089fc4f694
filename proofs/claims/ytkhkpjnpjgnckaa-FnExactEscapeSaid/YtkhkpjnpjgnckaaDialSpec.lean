/- A right Dialect: the model's contract of DialectOk. -/
import Derived.Test.YtkhkpjnpjgnckaaProg
import Derived.Test.YtkhkpjnpjgnckaaPlain
import Derived.Test.YtkhkpjnpjgnckaaHex
import Derived.Test.YtkhkpjnpjgnckaaCut
import Derived.Test.YtkhkpjnpjgnckaaDialectRows
import Derived.WalkKit
import Derived.WalkLawsBesides
import Derived.BigQuiet
import Derived.Deep.QuietTactic
import Derived.Lib.QuietBelow
import Derived.Laws.IdiomStrings
import Derived.Lib.Hide
import Derived.IntWalk
namespace Go.Proofs.Ytkhkpjnpjgnckaa
open Go.RowKit Go.Sort
set_option linter.unusedVariables false

/-- the byte at k is one of those, and none of those ahead -/
def ofAt (s u : ByteArray) (k : Nat) : Bool := if h : k < s.size then hasB u s[k] && !hasB (s.extract 0 k) s[k] else true
/-- so it is for the first k -/
def ofTo (s u : ByteArray) : Nat → Bool
  | 0 => true
  | k + 1 => ofTo s u k && ofAt s u k
theorem ofTo_false {s u : ByteArray} {k : Nat} (h : ofTo s u (k + 1) = false) : ∀ m, k + 1 ≤ m → ofTo s u m = false := by
  intro m hm
  induction m with
  | zero => omega
  | succ m ih =>
    by_cases e : m = k
    · subst e; exact h
    · simp only [ofTo]
      rw [ih (by omega)]
      rfl
/-- a text of some bytes of another, none twice, and not too many -/
def ofWith (s u : ByteArray) (m : Int) : Bool := ofTo s u s.size && Pl.inB s.size 1 m

abbrev notesB : ByteArray := ⟨#[35, 59, 33]⟩
abbrev sepsB : ByteArray := ⟨#[61, 58]⟩
/-- a right one -/
def dialOk (d : DialectD) : Bool := ofWith d.notes notesB 3 && ofWith d.seps sepsB 2 && Pl.inB d.join 0 2
theorem dialOk_size {d : DialectD} (h : dialOk d = true) : 1 ≤ d.notes.size ∧ d.notes.size ≤ 3 ∧ 1 ≤ d.seps.size ∧ d.seps.size ≤ 2 ∧ 0 ≤ d.join ∧ d.join ≤ 2 := by
  unfold dialOk ofWith at h
  simp only [Bool.and_eq_true, Pl.inB, decide_eq_true_eq] at h
  omega

end Go.Proofs.Ytkhkpjnpjgnckaa
