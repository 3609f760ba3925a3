/- Rows of numbers that came in, read row by row. (For frames.) -/
import Derived.Test.YtfdmbpfpdijpdaaYC
import Derived.WalkKit
import Derived.ProofKit
import Derived.OpenShut
import Derived.ChangeOld
import Derived.Below
import Derived.Deep.DeepHandedRow
import Derived.Deep.Matrix
namespace Go.Proofs.Ytfdmbpfpdijpdaa
open Go.ChangeShapes Go.WideShapes Go.ChangeAt Go.RowKit
set_option linter.unusedVariables false

/-- What the reading of rows of numbers gives. -/
theorem rows_of {H : Type} {enc : TypeId × Value → H} {W : World} {base : Nat} {held : Bool} {fuel : Nat} {a0 : Option Addr} {len0 cap0 : Nat} {d : DataW H} {p : List MemPlace}
    (h : DataW.trod enc Try.prog W base (fun _ => true) held fuel 23 [.slice a0 len0 cap0] = some (d, p)) :
    ∃ rs, RowsI W (.slice a0 len0 cap0) rs := by
  rcases Deep.open_int_rows Try.underlying23 Try.underlying22 Try.underlying3 (by kernel_rfl) (by kernel_rfl) h with ⟨hcs, hx⟩ | ⟨a, len, cap, A, L, C, Z, hcs, hb, hl, hm, hx, hr⟩
  · simp at hcs
    obtain ⟨rfl, rfl, rfl⟩ := hcs
    exact ⟨[], Nat.zero_le _, ⟨none, 0, rfl, Nat.le_refl _, by decide, fun h => absurd h (by simp)⟩, by simp⟩
  · simp at hcs
    obtain ⟨rfl, rfl, rfl⟩ := hcs
    have hrow : ∀ r, r < len0 → ∃ S : List Int, SeenI W (.slice (A r) (L r) (C r)) S ∧ ∀ x ∈ S, (Lit.int .i64 x).wf = true := by
      intro r hr0
      obtain ⟨q1, q2, q3, q4, q5, q6, q7⟩ := hr r (by omega)
      have : IsRow .i64 W (A r) (L r) (C r) (Z r) := by
        rcases hA : A r with _ | a'
        · have hC := q6 hA
          exact .inl ⟨rfl, by omega, hC, List.eq_nil_of_length_eq_zero (by omega)⟩
        · exact .inr ⟨a', rfl, q2, q3, q4, fun i hi => (q7 a' hA).2 i (by omega), q5⟩
      obtain ⟨S, h1, _, h3⟩ := this.seenI
      exact ⟨S, h1, h3⟩
    obtain ⟨S, hS⟩ := Deep.choose_lt hrow
    have hlen : ((List.range len0).map S).length = len0 := by simp
    refine ⟨(List.range len0).map S, by rw [hlen]; omega, ⟨some a, cap0, by rw [hlen], by rw [hlen]; exact hl, hm, fun hp => ?_⟩, fun l hl2 x hx2 => ?_⟩
    · rw [hlen] at hp
      obtain ⟨g, off, sp⟩ := a
      have hc := (hr 0 (by omega)).1
      have hsp : sp = none := by simpa [Addr.add] using World.cell?_spot hc
      subst hsp
      refine ⟨g, off, rfl, fun j hj => ?_⟩
      rw [hlen] at hj
      have h1 := (hr j (by omega)).1
      rw [addr_add] at h1
      exact ⟨_, h1, by have := (hS j hj).1; simpa [List.getD, hj] using this⟩
    · obtain ⟨r, hr2, rfl⟩ := List.mem_map.1 hl2
      exact (hS r (List.mem_range.1 hr2)).2 x hx2

end Go.Proofs.Ytfdmbpfpdijpdaa
