/- The library's contract of strings.IndexByte at this program, in plain words. -/
import Derived.Shelf.Small.Strs
import Derived.Test.YtkhkpjnpjgnckaaProg
namespace Go.Proofs.Ytkhkpjnpjgnckaa
open Go.Shelf
end Go.Proofs.Ytkhkpjnpjgnckaa
