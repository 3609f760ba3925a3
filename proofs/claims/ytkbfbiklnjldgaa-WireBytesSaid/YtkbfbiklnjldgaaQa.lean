/- The statements' helpers of stage 7: known, bools, Paths. -/
import Derived.Test.YtkbfbiklnjldgaaQs
import Derived.Test.YtkbfbiklnjldgaaW7
import Derived.Test.YtkbfbiklnjldgaaMw
import Derived.Test.YtkbfbiklnjldgaaA5
import Derived.Test.YtkbfbiklnjldgaaA7
import Derived.Test.YtkbfbiklnjldgaaAS
namespace Go.Proofs.Ytkbfbiklnjldgaa
open Go.RowKit
set_option linter.unusedVariables false

def noneS : ByteArray := { data := #[110, 111, 110, 101] }
set_option maxRecDepth 100000 in
theorem none_find : findI (mk []) noneS = -1 := by decide +kernel

set_option maxRecDepth 100000 in
theorem none_small : (∀ f ∈ mk [], f.c ≤ 9223372036854775807) ∧ (∀ f ∈ mk [], f.n.size ≤ 1000) := by decide +kernel

/-- Some of a schema's paths, by numbers. -/
def pathsL (l : List F) (ns : List Int) : List ByteArray := (ns.take 4).map fun x => pathB l (1 + x % ((l.length - 1 : Nat) : Int))

theorem pathsL_succ (l : List F) (ns : List Int) (k : Nat) (x : Int) (h : ns[k]? = some x) (hk : k < 4) : pathsL l (ns.take (k + 1)) = pathsL l (ns.take k) ++ [pathB l (1 + x % ((l.length - 1 : Nat) : Int))] := by
  unfold pathsL
  rw [List.take_take, List.take_take, Nat.min_eq_right (by omega), Nat.min_eq_right (by omega), List.take_add_one, h]
  simp

theorem pathsL_len (l : List F) (ns : List Int) : (pathsL l ns).length ≤ 4 := by unfold pathsL; simp; omega

end Go.Proofs.Ytkbfbiklnjldgaa
