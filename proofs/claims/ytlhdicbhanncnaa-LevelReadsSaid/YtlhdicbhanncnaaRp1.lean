/- The reference's cursor.Put. -/
import Derived.Test.YtlhdicbhanncnaaLo
import Derived.Test.YtlhdicbhanncnaaKa
import Derived.Test.YtlhdicbhanncnaaA1
namespace Go.Proofs.Ytlhdicbhanncnaa
open Go.RowKit
set_option linter.unusedVariables false
set_option linter.unusedSimpArgs false

end Go.Proofs.Ytlhdicbhanncnaa
