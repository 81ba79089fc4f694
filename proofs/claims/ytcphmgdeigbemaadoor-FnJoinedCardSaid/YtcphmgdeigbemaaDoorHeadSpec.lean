/- Heads: the model's contract of l05Head. -/
import Derived.Test.YtcphmgdeigbemaaDoorProg
import Derived.Test.YtcphmgdeigbemaaDoorPlain
import Derived.Test.YtcphmgdeigbemaaDoorCut
import Derived.Test.YtcphmgdeigbemaaDoorTrim
import Derived.Test.YtcphmgdeigbemaaDoorDialectRows
import Derived.Test.YtcphmgdeigbemaaDoorBareSpec
import Derived.Test.YtcphmgdeigbemaaDoorQuotSpec
import Derived.WalkKit
import Derived.WalkLawsBesides
import Derived.Laws.IdiomStrings
import Derived.Lib.Hide
import Derived.IntWalk
namespace Go.Proofs.YtcphmgdeigbemaaDoor
open Go.RowKit
set_option linter.unusedVariables false

abbrev closeB : ByteArray := ⟨#[93]⟩
/-- a text cut at the first of some bytes -/
def cutT (s u : ByteArray) : Option (ByteArray × ByteArray) := if firstIn (hasB u) s < s.size then some (s.extract 0 (firstIn (hasB u) s), s.extract (firstIn (hasB u) s + 1) s.size) else none
/-- what CutAt answers -/
theorem cutRes_is (s u : ByteArray) : cutRes s (firstIn (hasB u) s) = match cutT s u with | some (a, b) => .tuple #[.string a, .string b, .bool true] | none => .tuple #[.string s, .string ⟨#[]⟩, .bool false] := by
  unfold cutRes cutT
  split <;> rfl
theorem cutT_size {s u a b : ByteArray} (h : cutT s u = some (a, b)) : a.size ≤ s.size ∧ b.size ≤ s.size := by
  unfold cutT at h
  split at h
  · injection h with h
    injection h with h1 h2
    subst h1 h2
    rw [ByteArray.size_extract, ByteArray.size_extract]
    omega
  · cases h
/-- the section of a head -/
def head5 (d : DialectD) (t : ByteArray) : ByteArray × Bool := match cutT (t.extract 1 t.size) closeB with
  | some (a, b) => if 0 < (trimT a).size ∧ behind5 d b = true then (trimT a, true) else (⟨#[]⟩, false)
  | none => (⟨#[]⟩, false)

end Go.Proofs.YtcphmgdeigbemaaDoor
