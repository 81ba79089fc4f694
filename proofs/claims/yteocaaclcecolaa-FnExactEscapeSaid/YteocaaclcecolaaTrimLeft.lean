/- The closure of strings.TrimLeft at this program, for the library's contract. -/
import Derived.Shelf.Strings.SlTrimAscii
import Derived.Test.YteocaaclcecolaaProg
namespace Go.Proofs.Yteocaaclcecolaa
open Go.Shelf
end Go.Proofs.Yteocaaclcecolaa
