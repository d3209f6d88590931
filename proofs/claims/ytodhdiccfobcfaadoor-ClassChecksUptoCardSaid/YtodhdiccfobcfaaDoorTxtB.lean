/- A unit's bytes behind others. The bound is the form's own reach. -/
import Derived.Test.YtodhdiccfobcfaaDoorTxtA
import Derived.Test.YtodhdiccfobcfaaDoorMem
import Derived.Deep.RegionLaw

namespace Go.Proofs.YtodhdiccfobcfaaDoor
open Go.RowKit
set_option linter.unusedVariables false
set_option linter.unusedSimpArgs false

end Go.Proofs.YtodhdiccfobcfaaDoor
