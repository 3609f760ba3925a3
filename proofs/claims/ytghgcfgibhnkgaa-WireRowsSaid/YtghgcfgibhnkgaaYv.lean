/- The reference's leaf. -/
import Derived.Test.YtghgcfgibhnkgaaYd
namespace Go.Proofs.Ytghgcfgibhnkgaa
open Go.RowKit
set_option linter.unusedVariables false

end Go.Proofs.Ytghgcfgibhnkgaa
