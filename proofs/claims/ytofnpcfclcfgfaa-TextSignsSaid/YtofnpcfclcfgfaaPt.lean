/- A field's path: what it is. -/
import Derived.Test.YtofnpcfclcfgfaaMp5
import Derived.Lib.Join
namespace Go.Proofs.Ytofnpcfclcfgfaa
open Go.RowKit
set_option linter.unusedVariables false

/-- The names on the way up, the innermost first. -/
def upN (l : List F) : Nat → Int → List ByteArray
  | 0, _ => []
  | f + 1, k => if 0 < k then (l.getD k.toNat default).n :: upN l f ((parents l).getD k.toNat 0) else []

theorem upN_succ (l : List F) (f : Nat) (k : Int) : upN l (f + 1) k = if 0 < k then (l.getD k.toNat default).n :: upN l f ((parents l).getD k.toNat 0) else [] := rfl

def namesUp (l : List F) (k : Int) : List ByteArray := upN l (k.toNat + 1) k

def pathB (l : List F) (k : Int) : ByteArray := if (l.length : Int) ≤ k then ByteArray.empty else ⟨(Lib.join ((namesUp l k).reverse.map (·.data.toList)) [46]).toArray⟩

theorem upN_more (l : List F) : ∀ (f : Nat) (k : Int), k < f → k < l.length → upN l (f + 1) k = upN l f k := by
  intro f
  induction f with
  | zero => intro k h _; simp only [upN]; rw [if_neg (by omega)]
  | succ f ih =>
    intro k h hl
    rw [upN_succ l (f + 1) k, upN_succ l f k]
    by_cases hk : 0 < k
    · rw [if_pos hk, if_pos hk]
      have hx : (parents l)[k.toNat]? = some ((parents l).getD k.toNat 0) := by rw [List.getD, List.getElem?_eq_getElem (by simp; omega)]; rfl
      have hp := parents_lt hx
      rw [ih _ (by omega) (by omega)]
    · rw [if_neg hk, if_neg hk]

theorem upN_fix (l : List F) (k : Int) (hl : k < l.length) : ∀ (f : Nat), k.toNat + 1 ≤ f → upN l f k = namesUp l k := by
  intro f hf
  induction f with
  | zero => omega
  | succ f ih =>
    by_cases e : k.toNat = f
    · subst e; rfl
    · rw [upN_more l f k (by omega) hl]
      exact ih (by omega)

theorem namesUp_step (l : List F) (k : Nat) (h0 : 0 < k) (hl : k < l.length) : namesUp l k = (l.getD k default).n :: namesUp l ((parents l).getD k 0) := by
  have hx : (parents l)[k]? = some ((parents l).getD k 0) := by rw [List.getD, List.getElem?_eq_getElem (by simp; omega)]; rfl
  have hp := parents_lt hx
  have e : namesUp l k = upN l (k + 1) k := rfl
  rw [e, upN, if_pos (by omega)]
  have e2 : ((k : Int)).toNat = k := rfl
  rw [e2, upN_fix l _ (by omega) k (by omega)]

theorem namesUp_none (l : List F) (k : Int) (h : k ≤ 0) : namesUp l k = [] := by
  unfold namesUp
  rw [upN, if_neg (by omega)]

theorem namesUp_len (l : List F) (n : Nat) : ∀ (k : Int), k < n → k < l.length → (namesUp l k).length ≤ n := by
  induction n with
  | zero => intro k h _; rw [namesUp_none l k (by omega)]; simp
  | succ n ih =>
    intro k h hl
    by_cases hk : 0 < k
    · obtain ⟨j, rfl⟩ : ∃ j : Nat, k = j := ⟨k.toNat, by omega⟩
      have hx : (parents l)[j]? = some ((parents l).getD j 0) := by rw [List.getD, List.getElem?_eq_getElem (by simp; omega)]; rfl
      have hp := parents_lt hx
      rw [namesUp_step l j (by omega) (by omega), List.length_cons]
      have := ih ((parents l).getD j 0) (by omega) (by omega)
      omega
    · rw [namesUp_none l k (by omega)]; simp

/-- A path ends with the field's own name. -/
theorem join_last (xs : List (List UInt8)) (y : List UInt8) (sep : List UInt8) : ∃ t, Lib.join (xs ++ [y]) sep = t ++ y := by
  cases xs with
  | nil => exact ⟨[], by rw [List.nil_append, Lib.join_one]; rfl⟩
  | cons x r =>
    rw [List.cons_append, Lib.join_cons]
    refine ⟨x ++ Lib.joinTail sep r ++ sep, ?_⟩
    simp [Lib.joinTail]

theorem path_last (l : List F) (k : Nat) (h0 : 0 < k) (hl : k < l.length) : ∃ t, (pathB l k).data.toList = t ++ (l.getD k default).n.data.toList := by
  unfold pathB
  rw [if_neg (by omega), namesUp_step l k h0 hl, List.reverse_cons, List.map_append]
  simpa using join_last ((namesUp l ((parents l).getD k 0)).reverse.map (·.data.toList)) (l.getD k default).n.data.toList [46]

theorem path_none (l : List F) (k : Int) (h : k ≤ 0 ∨ (l.length : Int) ≤ k) : pathB l k = ByteArray.empty := by
  unfold pathB
  split
  · rfl
  · rename_i hn
    rw [namesUp_none l k (by omega)]
    rfl

theorem joinTail_len (sep : List UInt8) (xs : List (List UInt8)) (m : Nat) (h : ∀ x ∈ xs, x.length ≤ m) : (Lib.joinTail sep xs).length ≤ xs.length * (sep.length + m) := by
  induction xs with
  | nil => simp [Lib.joinTail]
  | cons x xs ih =>
    have h1 := ih fun y hy => h y (by simp [hy])
    have h2 := h x (by simp)
    simp only [Lib.joinTail, List.map_cons, List.flatten_cons, List.length_append, List.length_cons, Nat.succ_mul] at h1 ⊢
    omega

theorem join_len (sep : List UInt8) (xs : List (List UInt8)) (m : Nat) (h : ∀ x ∈ xs, x.length ≤ m) : (Lib.join xs sep).length ≤ xs.length * (sep.length + m) := by
  cases xs with
  | nil => simp [Lib.join_nil]
  | cons x xs =>
    rw [Lib.join_cons]
    have h1 := joinTail_len sep xs m fun y hy => h y (by simp [hy])
    have h2 := h x (by simp)
    simp only [List.length_append, List.length_cons, Nat.succ_mul]
    omega

end Go.Proofs.Ytofnpcfclcfgfaa
