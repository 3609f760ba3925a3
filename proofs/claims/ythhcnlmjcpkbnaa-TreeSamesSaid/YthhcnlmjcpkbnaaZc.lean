/- A tree that fits has few lists. -/
import Derived.Test.YthhcnlmjcpkbnaaZa
import Derived.Test.YthhcnlmjcpkbnaaYd
import Derived.Test.YthhcnlmjcpkbnaaQk
namespace Go.Proofs.Ythhcnlmjcpkbnaa
open Go.RowKit
set_option linter.unusedVariables false

theorem orE_eq {a b : Int} (h : orE a b = 0) : a = 0 ∧ b = 0 := by
  unfold orE at h
  split at h
  · contradiction
  · rename_i h1; exact ⟨by simpa using h1, h⟩

theorem fitL_all {l : List F} {f : Nat} : ∀ {x : List Tr}, fitL l f x = 0 → ∀ u ∈ x, fitV l f u = 0
  | [], _, u, hu => by simp at hu
  | t :: r, h, u, hu => by
    rw [fitL] at h
    obtain ⟨h1, h2⟩ := orE_eq h
    rcases List.mem_cons.1 hu with rfl | hu
    · exact h1
    · exact fitL_all h2 u hu

theorem fitG_all {l : List F} : ∀ {k : List (List Tr)} {is : List Int}, fitG l is k = 0 → ∀ x ∈ k, ∃ i, fitL l i x = 0
  | [], _, _, x, hx => by simp at hx
  | y :: r, is, h, x, hx => by
    rw [fitG] at h
    obtain ⟨h1, h2⟩ := orE_eq h
    rcases List.mem_cons.1 hx with rfl | hx
    · exact ⟨_, (orE_eq h1).2⟩
    · exact fitG_all h2 x hx

theorem fit_slim {l : List F} (hl : l.length ≤ 1000) : ∀ (d f : Nat) (t : Tr), fitV l f t = 0 → Slim d t
  | 0, _, _, _ => trivial
  | d + 1, f, t, h => by
    by_cases hk : (l.getD f default).k = 0
    · rw [fitV_group hk] at h
      split at h
      · exact absurd h (by decide)
      · rename_i hn
        have hlen : t.k.length = (kidsU (parents l) l.length f).length := by
          apply Classical.byContradiction
          intro h2
          exact hn (.inr (.inr h2))
        have := kidsU_len (parents l) l.length f
        refine ⟨by omega, fun x hx u hu => ?_⟩
        obtain ⟨i, hi⟩ := fitG_all h x hx
        exact fit_slim hl d i u (fitL_all hi u hu)
    · rw [fitV_leaf hk] at h
      unfold leafE at h
      split at h
      · exact absurd h (by decide)
      · rename_i hn
        have h0 : t.k.length = 0 := by
          apply Classical.byContradiction
          intro h2
          exact hn (.inl (by omega))
        refine ⟨by omega, fun x hx u hu => ?_⟩
        rw [List.eq_nil_of_length_eq_zero h0] at hx
        simp at hx

end Go.Proofs.Ythhcnlmjcpkbnaa
