/- Contracts of cursor's carry as Put calls it, of Put, and of the statements' own example known. -/
import Derived.Test.YtohgnbgijleoaaaGet
namespace Go.Proofs.Ytohgnbgijleoaaa
open Go.RowKit
set_option linter.unusedVariables false

/-- The lowest n bytes of a number. -/
def low : Nat → Int → List Int
  | 0, _ => []
  | n + 1, v => v % 256 :: low n (v / 256)

theorem low_length : ∀ (n : Nat) (v : Int), (low n v).length = n
  | 0, _ => rfl
  | n + 1, v => by simp [low, low_length n]

theorem low_snoc : ∀ (n : Nat) (v : Int), low (n + 1) v = low n v ++ [v / 256 ^ n % 256]
  | 0, v => by simp [low]
  | n + 1, v => by
    rw [low, low_snoc n (v / 256), low]
    have e : v / 256 / 256 ^ n = v / 256 ^ (n + 1) := by
      rw [Int.ediv_ediv_of_nonneg (by omega), Int.pow_succ, Int.mul_comm]
    simp [e]

theorem low_wf : ∀ (n : Nat) (v : Int), Wf (low n v)
  | 0, _ => by simp [low, Wf]
  | n + 1, v => by
    intro z hz
    simp only [low, List.mem_cons] at hz
    rcases hz with rfl | hz
    · omega
    · exact low_wf n _ z hz

/-- What Put answers: the list xs with the lowest k bytes of v behind it, in memory of its own. -/
def CPutOut (xs : List Int) (k : Nat) (v : Int) (w : World) (x : Ending) (w' : World) : Prop :=
  ∃ sv, x = .returned sv ∧ Chg [] w w' ∧ w'.ownsRow w.heap.size 5 1 sv (xs.length + k) (bys (xs ++ low k v))

/-! ### the statements' own example -/

end Go.Proofs.Ytohgnbgijleoaaa
