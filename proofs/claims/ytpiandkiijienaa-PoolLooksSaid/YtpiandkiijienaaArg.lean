/- An argument of bytes, opened. No condition but the form's own reach. -/
import Derived.Test.YtpiandkiijienaaOpen
namespace Go.Proofs.Ytpiandkiijienaa
open Go.ChangeShapes Go.WideShapes Go.ChangeAt Go.RowKit Go.Deep

end Go.Proofs.Ytpiandkiijienaa
