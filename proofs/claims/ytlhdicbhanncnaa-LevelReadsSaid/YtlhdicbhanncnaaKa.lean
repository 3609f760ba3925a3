/- Levels as bytes, as lists: how many at the front are alike, groups, what is written, what is read. -/
import Derived.Test.YtlhdicbhanncnaaLo
import Derived.Test.YtlhdicbhanncnaaA4
import Derived.Test.YtlhdicbhanncnaaA2
import Derived.Test.YtlhdicbhanncnaaA3
namespace Go.Proofs.Ytlhdicbhanncnaa
open Go.RowKit
set_option linter.unusedVariables false

/-- How many at the front are x. -/
def rn (x : Nat) : List Nat → Nat
  | [] => 0
  | y :: r => if y = x then rn x r + 1 else 0

theorem rn_le (x : Nat) : ∀ l : List Nat, rn x l ≤ l.length
  | [] => Nat.le_refl _
  | y :: r => by
    rw [rn]; split
    · have := rn_le x r; simp; omega
    · simp

theorem rn_get (x : Nat) : ∀ (l : List Nat) (j : Nat), j < rn x l → l.getD j 0 = x
  | [], j, h => by simp [rn] at h
  | y :: r, j, h => by
    rw [rn] at h
    split at h
    · rename_i e
      cases j with
      | zero => simpa using e
      | succ j => simpa using rn_get x r j (by omega)
    · omega

theorem rn_stop (x : Nat) : ∀ (l : List Nat), rn x l < l.length → l.getD (rn x l) 0 ≠ x
  | [], h => by simp [rn] at h
  | y :: r, h => by
    rw [rn] at h ⊢
    split
    · rename_i e
      rw [if_pos e] at h
      have := rn_stop x r (by simp at h; omega)
      simpa using this
    · rename_i e; simpa using e

theorem rn_of (x : Nat) (l : List Nat) (n : Nat) (hn : n ≤ l.length) (h : ∀ j, j < n → l.getD j 0 = x) (h2 : n = l.length ∨ l.getD n 0 ≠ x) : rn x l = n := by
  have h3 := rn_le x l
  rcases Nat.lt_trichotomy (rn x l) n with h1 | h1 | h1
  · exact absurd (h _ h1) (rn_stop x l (by omega))
  · exact h1
  · rcases h2 with h2 | h2
    · omega
    · exact absurd (rn_get x l n h1) h2

/-- How many at the front are alike. -/
def alk (l : List Nat) : Nat := rn (l.getD 0 0) l

theorem alk_le (l : List Nat) : alk l ≤ l.length := rn_le _ _

theorem alk_pos (l : List Nat) (h : l ≠ []) : 1 ≤ alk l := by
  cases l with
  | nil => exact absurd rfl h
  | cons x r => simp [alk, rn]

/-- There is no run at the front. -/
def nR (l : List Nat) : Bool := decide (alk l < min 8 l.length)

/-- How many lie in groups behind the first n. -/
def mixA (l : List Nat) (n : Nat) : Nat :=
  if h : n + 8 < l.length ∧ nR (l.drop (n + 8)) = true then mixA l (n + 8) else min (n + 8) l.length
termination_by l.length - n
decreasing_by omega

theorem mixA_le (l : List Nat) (n : Nat) : mixA l n ≤ l.length := by
  induction n using mixA.induct l with
  | case1 n h ih => rw [mixA, dif_pos h]; exact ih
  | case2 n h => rw [mixA, dif_neg h]; omega

theorem mixA_gt (l : List Nat) (n : Nat) (hn : n < l.length) : n < mixA l n := by
  induction n using mixA.induct l with
  | case1 n h ih => rw [mixA, dif_pos h]; have := ih h.1; omega
  | case2 n h => rw [mixA, dif_neg h]; omega

theorem mixA_eight (l : List Nat) (n : Nat) (hn : n % 8 = 0) : mixA l n = l.length ∨ mixA l n % 8 = 0 := by
  induction n using mixA.induct l with
  | case1 n h ih => rw [mixA, dif_pos h]; exact ih (by omega)
  | case2 n h => rw [mixA, dif_neg h]; omega

def mix (l : List Nat) : Nat := mixA l 0

theorem mix_le (l : List Nat) : mix l ≤ l.length := mixA_le l 0
theorem mix_pos (l : List Nat) (h : l ≠ []) : 1 ≤ mix l := mixA_gt l 0 (List.length_pos_iff.2 h)

/-- Filled with noughts to whole groups. -/
def pad8 (l : List Nat) : List Nat := l ++ List.replicate (8 * ((l.length + 7) / 8) - l.length) 0
@[simp] theorem pad8_length (l : List Nat) : (pad8 l).length = 8 * ((l.length + 7) / 8) := by simp [pad8]; omega

/-- Levels as bytes. -/
def encL (w : Nat) (l : List Nat) : List Nat :=
  if h : l = [] then []
  else if nR l = true then vb (2 * ((mix l + 7) / 8) + 1) ++ packed w (pad8 (l.take (mix l))) ++ encL w (l.drop (mix l))
  else vb (2 * alk l) ++ lo ((w + 7) / 8) (l.getD 0 0) ++ encL w (l.drop (alk l))
termination_by l.length
decreasing_by
  · have := mix_pos l h; have := List.length_pos_iff.2 h; simp; omega
  · have := alk_pos l h; have := List.length_pos_iff.2 h; simp; omega

theorem encL_nil (w : Nat) : encL w [] = [] := by rw [encL, dif_pos rfl]
theorem encL_mix (w : Nat) (l : List Nat) (h : l ≠ []) (hr : nR l = true) : encL w l = vb (2 * ((mix l + 7) / 8) + 1) ++ packed w (pad8 (l.take (mix l))) ++ encL w (l.drop (mix l)) := by
  rw [encL, dif_neg h, if_pos hr]
theorem encL_run (w : Nat) (l : List Nat) (h : l ≠ []) (hr : ¬ nR l = true) : encL w l = vb (2 * alk l) ++ lo ((w + 7) / 8) (l.getD 0 0) ++ encL w (l.drop (alk l)) := by
  rw [encL, dif_neg h, if_neg hr]

/-- A run or groups at the front of bytes, where k levels are left to be read: the error, the levels, the bytes behind. -/
def partL (w k : Nat) (b : List Nat) : Nat × List Nat × List Nat :=
  if (gl 0 b).2 ≠ 0 then ((gl 0 b).2, [], [])
  else if gv b % 2 = 0 then
    if gv b / 2 = 0 ∨ k < gv b / 2 then (10, [], [])
    else if (b.drop (gl 0 b).1).length < (w + 7) / 8 then (8, [], [])
    else if 2 ^ w ≤ nm ((b.drop (gl 0 b).1).take ((w + 7) / 8)) then (10, [], [])
    else (0, List.replicate (gv b / 2) (nm ((b.drop (gl 0 b).1).take ((w + 7) / 8))), (b.drop (gl 0 b).1).drop ((w + 7) / 8))
  else
    if gv b / 2 = 0 ∨ (k + 7) / 8 < gv b / 2 then (10, [], [])
    else if (b.drop (gl 0 b).1).length < gv b / 2 * w then (8, [], [])
    else if ((unpacked ((b.drop (gl 0 b).1).take (gv b / 2 * w)) (gv b / 2 * 8) w).drop k).any (fun x => x != 0) = true then (10, [], [])
    else (0, (unpacked ((b.drop (gl 0 b).1).take (gv b / 2 * w)) (gv b / 2 * 8) w).take k, (b.drop (gl 0 b).1).drop (gv b / 2 * w))

theorem partL_len (w k : Nat) (b : List Nat) (hk : 0 < k) (h : (partL w k b).1 = 0) : 1 ≤ (partL w k b).2.1.length ∧ (partL w k b).2.1.length ≤ k := by
  revert h
  unfold partL
  split
  · intro h; exact absurd h (by assumption)
  split
  · split
    · intro h; simp at h
    split
    · intro h; simp at h
    split
    · intro h; simp at h
    · intro _; simp; omega
  · split
    · intro h; simp at h
    split
    · intro h; simp at h
    split
    · intro h; simp at h
    · intro _; simp; omega

/-- What is read where k levels are left to be read. -/
def decL (w k : Nat) (b : List Nat) : Nat × List Nat :=
  if hk : k = 0 then (if b = [] then 0 else 9, [])
  else if h : (partL w k b).1 = 0 then ((decL w (k - (partL w k b).2.1.length) (partL w k b).2.2).1, (partL w k b).2.1 ++ (decL w (k - (partL w k b).2.1.length) (partL w k b).2.2).2)
  else ((partL w k b).1, [])
termination_by k
decreasing_by
  all_goals (have := partL_len w k b (by omega) h; omega)

theorem decL_zero (w : Nat) (b : List Nat) : decL w 0 b = (if b = [] then 0 else 9, []) := by rw [decL, dif_pos rfl]
theorem decL_ok (w k : Nat) (b : List Nat) (hk : k ≠ 0) (h : (partL w k b).1 = 0) : decL w k b = ((decL w (k - (partL w k b).2.1.length) (partL w k b).2.2).1, (partL w k b).2.1 ++ (decL w (k - (partL w k b).2.1.length) (partL w k b).2.2).2) := by
  conv => lhs; rw [decL, dif_neg hk, dif_pos h]
theorem decL_bad (w k : Nat) (b : List Nat) (hk : k ≠ 0) (h : (partL w k b).1 ≠ 0) : decL w k b = ((partL w k b).1, []) := by
  rw [decL, dif_neg hk, dif_neg h]

/-- What Decode answers: the error, the levels. -/
def decA (b : List Nat) (n w : Int) : Nat × List Nat :=
  if n < 0 ∨ 4000 < n ∨ w < 0 ∨ 16 < w then (1, [])
  else if w = 0 then (if b = [] then (0, List.replicate n.toNat 0) else (9, []))
  else if (decL w.toNat n.toNat b).1 = 0 then decL w.toNat n.toNat b else ((decL w.toNat n.toNat b).1, [])

end Go.Proofs.Ytlhdicbhanncnaa
