/- The reference's cursor.Put. -/
import Derived.Test.YtegidbbigjhapaaLo
import Derived.Test.YtegidbbigjhapaaKa
import Derived.Test.YtegidbbigjhapaaA1
namespace Go.Proofs.Ytegidbbigjhapaa
open Go.RowKit
set_option linter.unusedVariables false
set_option linter.unusedSimpArgs false

end Go.Proofs.Ytegidbbigjhapaa
