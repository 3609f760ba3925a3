/- Contract of the reference's Same, at two slices that read alike. -/
import Derived.Test.YtkbfbiklnjldgaaA4
import Derived.Deep.QuietTactic
import Derived.BigQuiet
namespace Go.Proofs.Ytkbfbiklnjldgaa
open Go.RowKit
set_option linter.unusedVariables false

end Go.Proofs.Ytkbfbiklnjldgaa
