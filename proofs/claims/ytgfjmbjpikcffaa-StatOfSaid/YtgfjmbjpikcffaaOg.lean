/- A row of integers with a sign, at a place. -/
import Derived.Test.YtgfjmbjpikcffaaFs
namespace Go.Proofs.Ytgfjmbjpikcffaa
open Go.RowKit
set_option linter.unusedVariables false

theorem SeenI.get {w : World} {ao : Option Addr} {n cap : Nat} {l : List Int} (h : SeenI w (.slice ao n cap) l) (hn : 0 < n) (hl : l.length = n) : ∃ g off, ao = some ⟨g, off, none⟩ ∧ ∀ j, j < n → w.cell? ⟨g, off + j, none⟩ = some (.int .i64 (l.getD j 0)) := by
  obtain ⟨g, off, e, hc⟩ := h.at hn
  refine ⟨g, off, e, fun j hj => SeenI.cell hc ?_⟩
  rw [List.getD, List.getElem?_eq_getElem (by omega)]
  rfl

end Go.Proofs.Ytgfjmbjpikcffaa
