/- Where nothing is ready all is done, if each operation waits (in this mode) for earlier ones alone. -/
import Derived.Test.YtgfjmbjpikcffaaIv
namespace Go.Proofs.Ytgfjmbjpikcffaa
open Go.RowKit
set_option linter.unusedVariables false

theorem ready_all2 {md : Region.Mode} {ops : Array Oper} {listed : Array Bool} (hr : Region.ready md ops listed = []) (hs : listed.size = ops.size) (ha : ((List.range ops.size).all fun i => match ops[i]? with | some o => o.after.all fun e => !Region.binds md e || decide (e.on < i) | none => true) = true) :
    ∀ i, i < ops.size → listed[i]? = some true := by
  intro i
  induction i using Nat.strongRecOn with
  | ind i ih =>
    intro hi
    have ho : ops[i]? = some ops[i] := Array.getElem?_eq_getElem hi
    have h1 := ready_not ho hr
    have h2 := (List.all_eq_true.1 ha) i (List.mem_range.2 hi)
    rw [ho] at h2
    simp only at h2
    have h3 : (ops[i].after.all fun e => !Region.binds md e || listed.getD e.on false) = true := by
      rw [Array.all_eq_true'] at h2 ⊢
      intro e he
      rcases Bool.or_eq_true_iff.1 (h2 e he) with hb | hb
      · rw [hb, Bool.true_or]
      · have h4 : e.on < i := of_decide_eq_true hb
        have h5 := ih e.on h4 (by omega)
        have h6 : listed.getD e.on false = true := by
          rw [Array.getD_eq_getD_getElem?, h5]
          rfl
        rw [h6, Bool.or_true]
    rw [h3, Bool.and_true] at h1
    have hl : listed[i]? = some listed[i] := Array.getElem?_eq_getElem (by omega)
    rw [Array.getD_eq_getD_getElem?, hl] at h1
    rw [hl]
    simpa using h1

end Go.Proofs.Ytgfjmbjpikcffaa
