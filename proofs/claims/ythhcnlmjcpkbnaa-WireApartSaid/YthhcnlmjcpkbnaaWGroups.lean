/- The walk of the statement ProjectGroups. -/
import Derived.Test.YthhcnlmjcpkbnaaWOrder
import Derived.Test.YthhcnlmjcpkbnaaQu
namespace Go.Proofs.Ythhcnlmjcpkbnaa
open Go.RowKit
set_option linter.unusedVariables false

def UpI (ps : List Int) (j : Int) (f : Nat) : Prop := ∃ m : Nat, j = (m : Int) ∧ Up ps m f

theorem upI_nat {ps : List Int} {i f : Nat} : UpI ps (i : Int) f ↔ Up ps i f :=
  ⟨fun ⟨m, h1, h2⟩ => by have e : i = m := by omega
                         rw [e]; exact h2, fun h => ⟨i, rfl, h⟩⟩

theorem upI_step {ps : List Int} {j f : Nat} {x : Int} (h : ps[j]? = some x) : UpI ps (j : Int) f ↔ ((j : Int) == (f : Int)) = true ∨ UpI ps x f := by
  rw [upI_nat, beq_iff_eq]
  constructor
  · intro h2
    cases h2 with
    | refl => exact .inl rfl
    | @step _ q _ h3 h4 =>
      rw [h] at h3
      injection h3 with h3
      exact .inr ⟨q, h3, h4⟩
  · rintro (h2 | ⟨m, rfl, h2⟩)
    · have e : j = f := by omega
      rw [e]; exact .refl f
    · exact .step h h2

theorem upI_none {ps : List Int} {f : Nat} : ¬ UpI ps (-1) f := fun ⟨m, h, _⟩ => by omega

end Go.Proofs.Ythhcnlmjcpkbnaa
