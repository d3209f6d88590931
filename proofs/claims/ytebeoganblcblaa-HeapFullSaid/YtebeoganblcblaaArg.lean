/- An argument of bytes, opened. No condition but the form's own reach. -/
import Derived.Test.YtebeoganblcblaaOpen
namespace Go.Proofs.Ytebeoganblcblaa
open Go.ChangeShapes Go.WideShapes Go.ChangeAt Go.RowKit Go.Deep

end Go.Proofs.Ytebeoganblcblaa
