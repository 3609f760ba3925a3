/- The reference's groups are the program's: the two machines, as lists. (For SchemaTells, SchemaChecks.) -/
import Derived.Test.YtofnpcfclcfgfaaMp5
namespace Go.Proofs.Ytofnpcfclcfgfaa
open Go.RowKit
set_option linter.unusedVariables false

/-- The reference's stack: what is full, is left; what says nothing or less is never entered. -/
def popR : List (Nat × Int) → List (Nat × Int)
  | [] => []
  | (g, x) :: t => if x = 0 then popR t else (g, x) :: t
def pushR (i : Nat) (f : F) (st : List (Nat × Int)) : List (Nat × Int) := if f.k = 0 ∧ 0 < f.c then (i, f.c) :: st else st
def parR : Nat → List F → List (Nat × Int) → List Int
  | _, [], _ => []
  | i, f :: l, st => topS (popR st) :: parR (i + 1) l (pushR i f (decS (popR st)))
/-- How many groups are open at each field. -/
def depR : Nat → List F → List (Nat × Int) → List Int
  | _, [], _ => []
  | i, f :: l, st => ((popR st).length : Int) :: depR (i + 1) l (pushR i f (decS (popR st)))

theorem popR_pos {st : List (Nat × Int)} (h : ∀ e ∈ st, 0 ≤ e.2) : popS st = popR st ∧ (∀ e ∈ popR st, 0 ≤ e.2) ∧ (∀ g x t, popR st = (g, x) :: t → 1 ≤ x) := by
  induction st with
  | nil => exact ⟨rfl, h, by intro g x t e; cases e⟩
  | cons a t ih =>
    obtain ⟨g, x⟩ := a
    have hx : 0 ≤ x := h (g, x) (by simp)
    obtain ⟨h1, h2, h3⟩ := ih fun e he => h e (by simp [he])
    by_cases h0 : x = 0
    · rw [show popS ((g, x) :: t) = popS t by rw [popS, if_pos (by omega)], show popR ((g, x) :: t) = popR t by rw [popR, if_pos h0]]
      exact ⟨h1, h2, h3⟩
    · rw [show popS ((g, x) :: t) = (g, x) :: t by rw [popS, if_neg (by omega)], show popR ((g, x) :: t) = (g, x) :: t by rw [popR, if_neg h0]]
      refine ⟨rfl, h, ?_⟩
      intro g' x' t' e
      injection e with e1 e2
      injection e1 with e3 e4
      omega

theorem dec_pos' {st : List (Nat × Int)} (h : ∀ e ∈ st, 0 ≤ e.2) (h1 : ∀ g x t, st = (g, x) :: t → 1 ≤ x) : ∀ e ∈ decS st, 0 ≤ e.2 := by
  cases st with
  | nil => exact h
  | cons a t =>
    obtain ⟨g, x⟩ := a
    intro e he
    rcases List.mem_cons.1 he with rfl | he
    · have := h1 g x t rfl; simp only; omega
    · exact h e (by simp [he])

/-- The program's stack is the reference's, or has one group more on top that says nothing. -/
theorem parR_eq (l : List F) : ∀ (i : Nat) (S R : List (Nat × Int)), (S = R ∨ ∃ j c, c < 1 ∧ S = (j, c) :: R) → (∀ e ∈ R, 0 ≤ e.2) → parR i l R = par i l S := by
  induction l with
  | nil => intro i S R _ _; rfl
  | cons f l ih =>
    intro i S R hS hR
    obtain ⟨p1, p2, p3⟩ := popR_pos hR
    have hp : popS S = popR R := by
      rcases hS with rfl | ⟨j, c, hc, rfl⟩
      · exact p1
      · rw [popS, if_pos hc, p1]
    have hd := dec_pos' p2 p3
    simp only [parR, par, hp]
    congr 1
    apply ih
    · unfold pushR pushS
      by_cases hk : f.k = 0
      · by_cases hc : 0 < f.c
        · left; rw [if_pos hk, if_pos ⟨hk, hc⟩]
        · right; exact ⟨i, f.c, by omega, by rw [if_pos hk, if_neg (fun h : f.k = 0 ∧ 0 < f.c => hc h.2)]⟩
      · left; rw [if_neg hk, if_neg (fun h : f.k = 0 ∧ 0 < f.c => hk h.1)]
    · unfold pushR
      split
      · rename_i h
        intro e he
        rcases List.mem_cons.1 he with rfl | he
        · simp only; omega
        · exact hd e he
      · exact hd

theorem parR_parents (l : List F) : parR 0 l [] = parents l := parR_eq l 0 [] [] (.inl rfl) (by simp)

@[simp] theorem depR_length (l : List F) : ∀ (i : Nat) (st : List (Nat × Int)), (depR i l st).length = l.length := by
  induction l with
  | nil => intro i st; rfl
  | cons f l ih => intro i st; simp [depR, ih]

end Go.Proofs.Ytofnpcfclcfgfaa
