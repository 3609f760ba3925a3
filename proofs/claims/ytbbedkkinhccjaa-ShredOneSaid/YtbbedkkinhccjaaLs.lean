/- Moved together from several texts. -/
import Derived.Test.YtbbedkkinhccjaaA1
namespace Go.Proofs.Ytbbedkkinhccjaa
open Go.RowKit
set_option linter.unusedVariables false
set_option linter.unusedSimpArgs false

theorem least_of (p : Nat → Prop) : ∀ n, p n → ∃ m, p m ∧ m ≤ n ∧ ∀ k, p k → m ≤ k := by
  intro n
  induction n using Nat.strongRecOn with
  | _ n ih =>
    intro h
    by_cases hx : ∃ k, k < n ∧ p k
    · obtain ⟨k, h1, h2⟩ := hx
      obtain ⟨m, q1, q2, q3⟩ := ih k h1 h2
      exact ⟨m, q1, by omega, q3⟩
    · exact ⟨n, h, Nat.le_refl _, fun k hk => Nat.le_of_not_lt fun hlt => hx ⟨k, hlt, hk⟩⟩

open Classical in
/-- The least number of which p holds. -/
noncomputable def leastN (p : Nat → Prop) : Nat := if h : ∃ n, p n then Classical.choose (least_of p (Classical.choose h) (Classical.choose_spec h)) else 0

theorem leastN_spec {p : Nat → Prop} (h : ∃ n, p n) : p (leastN p) ∧ ∀ k, p k → leastN p ≤ k := by
  unfold leastN
  rw [dif_pos h]
  have := Classical.choose_spec (least_of p (Classical.choose h) (Classical.choose_spec h))
  exact ⟨this.1, this.2.2⟩

/-- wp_scope_pre, the measure told by the invariant. -/
theorem wp_scope_pre_n {P : Program} {a : Act} {w : World} {Q : Exit → Act → World → Prop} {pre rest : Code} (l : Nat) (J : Nat → Act → World → Prop) (hf : findLabel (.seq pre (.seq (.label l) rest)) l = some (.seq .skip rest)) (h0 : pre.wp P (Exit.then (fun a w => ∃ n, J n a w) (fun _ _ _ => False)) a w)
    (pass : ∀ n a w, J n a w → rest.wp P (Exit.jump l (fun a' w' => ∃ n', n' < n ∧ J n' a' w') Q) a w) : (Code.scope (.seq pre (.seq (.label l) rest))).wp P Q a w := by
  refine wp_scope_pre l (fun a w => ∃ n, J n a w) (fun a w => leastN fun n => J n a w) hf h0 fun a w hj => ?_
  refine wp_mono (pass _ a w (leastN_spec hj).1) fun e a' w' h => ?_
  cases e with
  | goto l' =>
    obtain ⟨rfl, n', hlt, hj'⟩ := h
    exact ⟨rfl, ⟨n', hj'⟩, Nat.lt_of_le_of_lt ((leastN_spec (p := fun n => J n a' w') ⟨n', hj'⟩).2 n' hj') hlt⟩
  | _ => exact h

end Go.Proofs.Ytbbedkkinhccjaa
