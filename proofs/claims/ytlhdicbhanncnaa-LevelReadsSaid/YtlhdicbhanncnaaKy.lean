/- level's reference: how its reading stands when some levels are read (pure). -/
import Derived.Test.YtlhdicbhanncnaaKa
namespace Go.Proofs.Ytlhdicbhanncnaa
open Go.RowKit
set_option linter.unusedVariables false
set_option linter.unusedSimpArgs false

/-- l was read of the n levels of b; a bytes are gone; the error is e. -/
def LvJ (w n : Nat) (b : List Nat) (a : Nat) (e : Nat) (l : List Nat) : Prop :=
  (e = 0 → l.length ≤ n ∧ decL w n b = ((decL w (n - l.length) (b.drop a)).1, l ++ (decL w (n - l.length) (b.drop a)).2)) ∧ (e ≠ 0 → (decL w n b).1 = e)

theorem LvJ.start (w n : Nat) (b : List Nat) : LvJ w n b 0 0 [] := ⟨fun _ => ⟨Nat.zero_le _, by simp⟩, fun h => absurd rfl h⟩

/-- A part was read. -/
theorem LvJ.step {w n : Nat} {b : List Nat} {a a' : Nat} {l x : List Nat} (h : LvJ w n b a 0 l) (hl : l.length < n) (hp : partL w (n - l.length) (b.drop a) = (0, x, b.drop a')) (hx : x.length ≤ n - l.length) : LvJ w n b a' 0 (l ++ x) := by
  obtain ⟨h1, h2⟩ := h.1 rfl
  refine ⟨fun _ => ⟨by rw [List.length_append]; omega, ?_⟩, fun h => absurd rfl h⟩
  rw [h2, decL_ok w (n - l.length) (b.drop a) (by omega) (by rw [hp]), hp]
  simp only [List.length_append, List.append_assoc, Nat.sub_add_eq]

/-- A part was refused. -/
theorem LvJ.fail {w n : Nat} {b : List Nat} {a a' e : Nat} {l l' : List Nat} (h : LvJ w n b a 0 l) (hl : l.length < n) (hp : (partL w (n - l.length) (b.drop a)).1 = e) (he : e ≠ 0) : LvJ w n b a' e l' := by
  obtain ⟨h1, h2⟩ := h.1 rfl
  refine ⟨fun h => absurd h he, fun _ => ?_⟩
  rw [h2, decL_bad w (n - l.length) (b.drop a) (by omega) (by rw [hp]; exact he), hp]

/-- The end, without an error. -/
theorem LvJ.done {w n : Nat} {b : List Nat} {a : Nat} {l : List Nat} (h : LvJ w n b a 0 l) (hl : l.length = n) : decL w n b = (if b.drop a = [] then 0 else 9, l) := by
  obtain ⟨h1, h2⟩ := h.1 rfl
  rw [h2, hl, Nat.sub_self, decL_zero, List.append_nil]

end Go.Proofs.Ytlhdicbhanncnaa
