/- level's statements: known, ints. -/
import Derived.Test.YtegidbbigjhapaaKi
import Derived.Test.YtegidbbigjhapaaKm
import Derived.Test.YtegidbbigjhapaaA1
namespace Go.Proofs.Ytegidbbigjhapaa
open Go.RowKit
set_option linter.unusedVariables false
set_option linter.unusedSimpArgs false

theorem enc_known : encL 1 (List.replicate 10 1) = [20, 1] := by
  rw [encL_rep 1 10 1 (by decide), vb_lt (by decide)]
  rfl

end Go.Proofs.Ytegidbbigjhapaa
