/- The texts, classes and members of a pool, as the document says. No condition. -/
import Derived.Test.YtmakfnghkpdpkaaPolT
namespace Go.Proofs.Ytmakfnghkpdpkaa
open Go.RowKit
set_option linter.unusedVariables false
set_option linter.unusedSimpArgs false

end Go.Proofs.Ytmakfnghkpdpkaa
