/- slices.Clone at bytes: a row of its own with the same bytes. The bound is the form's own reach (2^47 bytes). -/
import Derived.Test.YtadgbkjjeigpjaaRows
import Derived.Test.YtadgbkjjeigpjaaMem
namespace Go.Proofs.Ytadgbkjjeigpjaa
open Go.RowKit


end Go.Proofs.Ytadgbkjjeigpjaa
