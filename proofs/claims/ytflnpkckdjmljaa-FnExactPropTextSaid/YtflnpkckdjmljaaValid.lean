/- The library's contract of utf8.ValidString at this program, in plain words. -/
import Derived.Test.YtflnpkckdjmljaaProg
import Derived.Test.YtflnpkckdjmljaaRunePure
import Derived.Test.YtflnpkckdjmljaaDecodePure
import Derived.Shelf.Unicode.ValidAny
import Derived.Lib.LaidU8T
import Derived.Below
namespace Go.Proofs.Ytflnpkckdjmljaa
open Go.Shelf
end Go.Proofs.Ytflnpkckdjmljaa
