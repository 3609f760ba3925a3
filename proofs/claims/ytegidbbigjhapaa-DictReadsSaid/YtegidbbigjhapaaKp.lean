/- level's statements: Levels. -/
import Derived.Test.YtegidbbigjhapaaKn
import Derived.Test.YtegidbbigjhapaaA1
namespace Go.Proofs.Ytegidbbigjhapaa
open Go.RowKit
set_option linter.unusedVariables false
set_option linter.unusedSimpArgs false

/-- What Levels answers: some levels of the width, at most three hundred. -/
def LvOut (width : Nat) (w : World) (e : Ending) (w' : World) : Prop :=
  ∃ v L, e = .returned v ∧ L.length ≤ 300 ∧ (∀ x ∈ L, x < 2 ^ width) ∧ Made 3 .i64 L w v w'

end Go.Proofs.Ytegidbbigjhapaa
