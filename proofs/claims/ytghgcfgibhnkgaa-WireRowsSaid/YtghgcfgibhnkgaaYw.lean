/- The reference's fits. -/
import Derived.Test.YtghgcfgibhnkgaaYv
import Derived.Test.YtghgcfgibhnkgaaYB
import Derived.Test.YtghgcfgibhnkgaaYC
namespace Go.Proofs.Ytghgcfgibhnkgaa
open Go.RowKit
set_option linter.unusedVariables false

theorem kidsU_at {ps : List Int} {f i : Nat} (h : ps.getD i 0 = (f : Int)) : ∀ m, i < m → (kidsU ps m f)[(kidsU ps i f).length]? = some (i : Int)
  | 0, hm => absurd hm (by omega)
  | m + 1, hm => by
    by_cases he : i = m
    · subst he
      rw [kidsU_succ, if_pos h, List.getElem?_append_right (Nat.le_refl _), Nat.sub_self]
      rfl
    · have ih := kidsU_at h m (by omega)
      rw [kidsU_succ]
      split
      · rw [List.getElem?_append_left (List.getElem?_eq_some_iff.1 ih).1]; exact ih
      · exact ih

/-- What the reference wants of a schema. -/
structure FitOk (l : List F) : Prop where
  c : ∀ f, f < l.length → (l.getD f default).k = 0 → (l.getD f default).c = ((kidsU (parents l) l.length f).length : Int)
  r : ∀ f, f < l.length → (l.getD f default).r = 0 ∨ (l.getD f default).r = 1 ∨ (l.getD f default).r = 2
  n : l.length ≤ 1000

theorem times_ok {r : Int} {q : Nat} (h : timesE r q = 0) (hr : r = 0 ∨ r = 1 ∨ r = 2) : (r = 0 ∧ q = 1) ∨ (r = 1 ∧ q ≤ 1) ∨ (r = 2 ∧ q ≤ 50) := by
  unfold timesE at h
  rcases hr with rfl | rfl | rfl
  · left
    refine ⟨rfl, ?_⟩
    rw [if_pos rfl] at h
    split at h <;> omega
  · right; left
    refine ⟨rfl, ?_⟩
    rw [if_neg (by decide), if_pos rfl] at h
    split at h <;> omega
  · right; right
    refine ⟨rfl, ?_⟩
    rw [if_neg (by decide), if_neg (by decide), if_pos rfl] at h
    split at h <;> omega

theorem times_no {r : Int} {q : Nat} (h : ¬ timesE r q = 0) (hr : r = 0 ∨ r = 1 ∨ r = 2) : (r = 0 ∧ 1 < q ∧ timesE r q = 13) ∨ (r = 0 ∧ q = 0 ∧ timesE r q = 13) ∨ (r = 1 ∧ 1 < q ∧ timesE r q = 13) ∨ (r = 2 ∧ 50 < q ∧ timesE r q = 4) := by
  unfold timesE at h ⊢
  rcases hr with rfl | rfl | rfl
  · rw [if_pos rfl] at h
    split at h
    · exact absurd rfl h
    · rename_i h1
      by_cases h2 : 1 < q
      · exact .inl ⟨rfl, h2, by rw [if_pos rfl, if_neg h1]⟩
      · exact .inr (.inl ⟨rfl, by omega, by rw [if_pos rfl, if_neg h1]⟩)
  · rw [if_neg (by decide), if_pos rfl] at h
    split at h
    · exact absurd rfl h
    · rename_i h1
      exact .inr (.inr (.inl ⟨rfl, by omega, by rw [if_neg (by decide), if_pos rfl, if_neg h1]⟩))
  · rw [if_neg (by decide), if_neg (by decide), if_pos rfl] at h
    split at h
    · exact absurd rfl h
    · rename_i h1
      exact .inr (.inr (.inr ⟨rfl, by omega, by rw [if_neg (by decide), if_neg (by decide), if_pos rfl, if_neg h1]⟩))

end Go.Proofs.Ytghgcfgibhnkgaa
