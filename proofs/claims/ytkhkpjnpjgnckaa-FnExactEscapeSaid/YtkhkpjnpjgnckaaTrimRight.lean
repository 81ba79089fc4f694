/- The closure of strings.TrimRight at this program, for the library's contract. -/
import Derived.Shelf.Strings.SlTrimAscii
import Derived.Test.YtkhkpjnpjgnckaaProg
namespace Go.Proofs.Ytkhkpjnpjgnckaa
open Go.Shelf
end Go.Proofs.Ytkhkpjnpjgnckaa
