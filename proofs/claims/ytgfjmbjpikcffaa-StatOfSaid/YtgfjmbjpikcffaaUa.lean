/- Values of a kind (out of Ua). -/
import Derived.Test.YtgfjmbjpikcffaaVc
import Derived.Test.YtgfjmbjpikcffaaBs
namespace Go.Proofs.Ytgfjmbjpikcffaa
open Go.RowKit
set_option linter.unusedVariables false
set_option linter.unusedSimpArgs false

/-- A value that a leaf of the kind may have. -/
def okV (k : Nat) (v : V) : Prop :=
  (k = 1 → (v.n = 0 ∨ v.n = 1) ∧ v.s = e0) ∧ (k = 2 → (-2147483648 ≤ v.n ∧ v.n < 2147483648) ∧ v.s = e0) ∧ (k = 3 → (-9223372036854775808 ≤ v.n ∧ v.n < 9223372036854775808) ∧ v.s = e0) ∧ (k = 4 → v.n = 0 ∧ v.s.size ≤ 100)

/-- A value of a kind, of a raw one. -/
def gdV (k : Nat) (v : V) : V := if k = 1 then ⟨v.n % 2, e0⟩ else if k = 2 then ⟨IntKind.i32.wrap v.n, e0⟩ else if k = 3 then ⟨v.n, e0⟩ else ⟨0, v.s.extract 0 (min v.s.size 100)⟩

theorem w32 (n : Int) : IntKind.i32.wrap n = (n + 2147483648) % 4294967296 - 2147483648 := by
  simp [IntKind.wrap, IntKind.bits, IntKind.signed]; omega

theorem gd_ok (k : Nat) (v : V) (hv : -9223372036854775808 ≤ v.n ∧ v.n ≤ 9223372036854775807) : okV k (gdV k v) := by
  unfold okV gdV
  refine ⟨fun h => ?_, fun h => ?_, fun h => ?_, fun h => ?_⟩ <;> subst h
  · refine ⟨?_, rfl⟩
    show v.n % 2 = 0 ∨ v.n % 2 = 1
    omega
  · refine ⟨?_, rfl⟩
    show -2147483648 ≤ IntKind.i32.wrap v.n ∧ IntKind.i32.wrap v.n < 2147483648
    rw [w32]; omega
  · refine ⟨?_, rfl⟩
    show -9223372036854775808 ≤ v.n ∧ v.n < 9223372036854775808
    omega
  · refine ⟨rfl, ?_⟩
    show (v.s.extract 0 (min v.s.size 100)).size ≤ 100
    rw [ByteArray.size_extract]; omega

end Go.Proofs.Ytgfjmbjpikcffaa
