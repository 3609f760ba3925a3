/- project's named: which of some fields has a name. -/
import Derived.Test.YtkbfbiklnjldgaaQk
import Derived.Test.YtkbfbiklnjldgaaA2
namespace Go.Proofs.Ytkbfbiklnjldgaa
open Go.RowKit
set_option linter.unusedVariables false

/-- Where the first one is that b holds of, or -1. -/
def idxI (b : Int → Bool) : List Int → Nat → Int
  | [], _ => -1
  | x :: r, k => if b x then (k : Int) else idxI b r (k + 1)

theorem idxI_skip (b : Int → Bool) (ks : List Int) (k : Nat) (x : Int) (h : ks[k]? = some x) (hb : b x = false) : idxI b (ks.drop k) k = idxI b (ks.drop (k + 1)) (k + 1) := by
  have hl := (List.getElem?_eq_some_iff.1 h).1
  rw [List.getElem?_eq_getElem hl] at h
  injection h with h
  rw [List.drop_eq_getElem_cons hl, idxI, h, hb]
  rfl

theorem idxI_hit (b : Int → Bool) (ks : List Int) (k : Nat) (x : Int) (h : ks[k]? = some x) (hb : b x = true) : idxI b (ks.drop k) k = (k : Int) := by
  have hl := (List.getElem?_eq_some_iff.1 h).1
  rw [List.getElem?_eq_getElem hl] at h
  injection h with h
  rw [List.drop_eq_getElem_cons hl, idxI, h, hb]
  rfl

theorem idxI_find (b : Int → Bool) : ∀ (ks : List Int) (k : Nat) (pre : List Int), pre.length = k → (idxI b ks k = -1 ∧ ks.find? b = none) ∨ ∃ (i : Nat) (x : Int), idxI b ks k = (i : Int) ∧ k ≤ i ∧ (pre ++ ks)[i]? = some x ∧ ks.find? b = some x
  | [], k, pre, _ => .inl ⟨rfl, rfl⟩
  | x :: r, k, pre, hp => by
    cases hb : b x
    · rcases idxI_find b r (k + 1) (pre ++ [x]) (by simp [hp]) with ⟨h1, h2⟩ | ⟨i, y, h1, h2, h3, h4⟩
      · exact .inl ⟨by rw [idxI, hb]; exact h1, by rw [List.find?_cons, hb]; exact h2⟩
      · exact .inr ⟨i, y, by rw [idxI, hb]; exact h1, by omega, by simpa using h3, by rw [List.find?_cons, hb]; exact h4⟩
    · exact .inr ⟨k, x, by rw [idxI, hb]; rfl, Nat.le_refl _, by rw [List.getElem?_append_right (by omega), hp]; simp, by rw [List.find?_cons, hb]⟩

/-- Which of some fields has a name, or -1. -/
def namedI (l : List F) (ks : List Int) (nm : ByteArray) : Int := (ks.find? fun i => decide ((l.getD i.toNat default).n = nm)).getD (-1)

end Go.Proofs.Ytkbfbiklnjldgaa
