/- The statements' own helper within (the folder's name is filled in by hand: shredderlaw7). -/
import Derived.Test.YtkbfbiklnjldgaaA1
namespace Go.Proofs.Ytkbfbiklnjldgaa
open Go.RowKit
set_option linter.unusedVariables false

end Go.Proofs.Ytkbfbiklnjldgaa
