/- A unit's bytes behind others. The bound is the form's own reach. -/
import Derived.Test.YtmakfnghkpdpkaaTxtA
import Derived.Test.YtmakfnghkpdpkaaMem
import Derived.Deep.RegionLaw

namespace Go.Proofs.Ytmakfnghkpdpkaa
open Go.RowKit
set_option linter.unusedVariables false
set_option linter.unusedSimpArgs false

end Go.Proofs.Ytmakfnghkpdpkaa
