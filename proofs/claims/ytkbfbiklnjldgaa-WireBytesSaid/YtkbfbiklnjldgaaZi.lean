/- Rows of natural numbers as the readers' rows of numbers. -/
import Derived.Test.YtkbfbiklnjldgaaC1
namespace Go.Proofs.Ytkbfbiklnjldgaa
open Go.RowKit
set_option linter.unusedVariables false

/-- Natural numbers as numbers. -/
def zi (l : List Nat) : List Int := l.map fun (n : Nat) => (n : Int)
@[simp] theorem zi_length (l : List Nat) : (zi l).length = l.length := by simp [zi]
theorem bys_zi (l : List Nat) : bys (zi l) = nv .u8 l := by simp [bys, zi, nv]
theorem zi_wf {l : List Nat} (h : ∀ x ∈ l, x < 256) : Wf (zi l) := by
  intro z hz
  obtain ⟨n, hn, rfl⟩ := List.mem_map.1 hz
  have := h n hn
  omega
theorem zi_drop (l : List Nat) (k : Nat) : (zi l).drop k = zi (l.drop k) := by simp [zi, List.map_drop]
theorem zi_take (l : List Nat) (k : Nat) : (zi l).take k = zi (l.take k) := by simp [zi, List.map_take]
/-- A number by its bytes, the lowest first. -/
def nm : List Nat → Nat
  | [] => 0
  | z :: l => z + 256 * nm l
theorem num_zi (l : List Nat) : num (zi l) = (nm l : Nat) := by
  induction l with
  | nil => rfl
  | cons z l ih =>
    have e : zi (z :: l) = (z : Int) :: zi l := rfl
    rw [e, num, nm, ih]
    omega

end Go.Proofs.Ytkbfbiklnjldgaa
