/- Moved together from several texts. -/
import Derived.Test.YtfdmbpfpdijpdaaA5
namespace Go.Proofs.Ytfdmbpfpdijpdaa
open Go.RowKit
set_option linter.unusedVariables false
set_option linter.unusedSimpArgs false

theorem kidsU_mem {ps : List Int} {m g : Nat} {x : Int} : x ∈ kidsU ps m g ↔ ∃ i : Nat, x = (i : Int) ∧ i < m ∧ ps.getD i 0 = (g : Int) := by
  unfold kidsU
  rw [List.mem_map]
  constructor
  · rintro ⟨i, hi, rfl⟩
    rw [List.mem_filter, List.mem_range, beq_iff_eq] at hi
    exact ⟨i, rfl, hi.1, hi.2⟩
  · rintro ⟨i, rfl, h1, h2⟩
    exact ⟨i, by rw [List.mem_filter, List.mem_range, beq_iff_eq]; exact ⟨h1, h2⟩, rfl⟩

end Go.Proofs.Ytfdmbpfpdijpdaa
