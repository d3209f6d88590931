/- The library's contracts that the walks of stage 2 use, as facts of this program: ValidString, and a builder's String and WriteRune. Each is one application of a theorem of the library; the numbers are the program's own. No condition beyond those written in each. -/
import Derived.Shelf.Strings.Builder1
import Derived.Shelf.Strings.BuilderF
import Derived.Shelf.Strings.BuilderK
import Derived.Shelf.Strings.BuilderRune
import Derived.Shelf.Unicode.ValidAny
import Derived.Test.YtmakfnghkpdpkaaProg
namespace Go.Proofs
open Go.Shelf
end Go.Proofs
