/- Numbers of variable length, as lists of natural numbers. -/
import Derived.Test.YtohgnbgijleoaaaDoorNv
namespace Go.Proofs.YtohgnbgijleoaaaDoor
open Go.RowKit
set_option linter.unusedVariables false

/-- The bytes of a number. -/
def vb (v : Nat) : List Nat := if h : v < 128 then [v] else (v % 128 + 128) :: vb (v / 128)
termination_by v
decreasing_by omega

theorem vb_lt {v : Nat} (h : v < 128) : vb v = [v] := by rw [vb, dif_pos h]
theorem vb_ge {v : Nat} (h : ¬ v < 128) : vb v = (v % 128 + 128) :: vb (v / 128) := by rw [vb, dif_neg h]

theorem vb_bytes (v : Nat) : ∀ x ∈ vb v, x < 2 ^ 8 := by
  induction v using Nat.strongRecOn with
  | _ v ih =>
    by_cases h : v < 128
    · rw [vb_lt h]; intro x hx; simp at hx; omega
    · rw [vb_ge h]
      intro x hx
      rcases List.mem_cons.1 hx with rfl | hx
      · omega
      · exact ih _ (by omega) x hx

/-- How many bytes: k where 128^(k-1) ≤ v < 128^k, 1 for 0. -/
theorem vb_len (k v : Nat) (h1 : v < 128 ^ (k + 1)) (h2 : k = 0 ∨ 128 ^ k ≤ v) : (vb v).length = k + 1 := by
  induction k generalizing v with
  | zero => rw [vb_lt (by simpa using h1)]; rfl
  | succ k ih =>
    have hp : 0 < 128 ^ k := Nat.pow_pos (by decide)
    have h2 : 128 ^ (k + 1) ≤ v := by rcases h2 with h2 | h2 <;> first | exact h2 | omega
    rw [Nat.pow_succ] at h1 h2
    rw [vb_ge (by omega), List.length_cons, ih]
    · rw [Nat.div_lt_iff_lt_mul (by decide)]; exact h1
    · right
      rw [Nat.le_div_iff_mul_le (by decide)]; exact h2

theorem vb_len_le (k v : Nat) (h1 : v < 128 ^ (k + 1)) : 1 ≤ (vb v).length ∧ (vb v).length ≤ k + 1 := by
  induction k generalizing v with
  | zero => rw [vb_lt (by simpa using h1)]; simp
  | succ k ih =>
    by_cases h : v < 128
    · rw [vb_lt h]; simp
    · rw [vb_ge h, List.length_cons]
      have := ih (v / 128) (by rw [Nat.div_lt_iff_lt_mul (by decide)]; rw [Nat.pow_succ] at h1; exact h1)
      omega

theorem vb_len64 {v : Nat} (h : v < 18446744073709551616) : 1 ≤ (vb v).length ∧ (vb v).length ≤ 10 :=
  vb_len_le 9 v (by have : (128 : Nat) ^ (9 + 1) = 1180591620717411303424 := by decide
                    omega)

theorem vb_ne (v : Nat) : vb v ≠ [] := by
  by_cases h : v < 128
  · rw [vb_lt h]; simp
  · rw [vb_ge h]; simp

/-- What a row of groups is worth. -/
def vv : List Nat → Nat
  | [] => 0
  | x :: r => x % 128 + 128 * vv r

theorem vv_vb (v : Nat) : vv (vb v) = v := by
  induction v using Nat.strongRecOn with
  | _ v ih =>
    by_cases h : v < 128
    · rw [vb_lt h]; simp [vv]; omega
    · rw [vb_ge h, vv, ih _ (by omega)]; omega

theorem vv_lt (l : List Nat) : vv l < 128 ^ l.length := by
  induction l with
  | nil => simp [vv]
  | cons x r ih => rw [vv, List.length_cons, Nat.pow_succ]; omega

theorem vv_append (l r : List Nat) : vv (l ++ r) = vv l + 128 ^ l.length * vv r := by
  induction l with
  | nil => simp [vv]
  | cons x l ih =>
    rw [List.cons_append, vv, ih, vv, List.length_cons, Nat.pow_succ, Nat.mul_add, Nat.add_assoc, Nat.mul_comm (128 ^ l.length) 128, Nat.mul_assoc]

/-- An answer that lies j bytes further on. -/
def up (j : Nat) (p : Nat × Nat) : Nat × Nat := (if p.2 = 0 then p.1 + j else 0, p.2)
theorem up_up (i j : Nat) (p : Nat × Nat) : up i (up j p) = up (i + j) p := by
  unfold up; split <;> simp_all <;> omega

/-- How the number at the front ends, if i bytes lie ahead: its bytes from here, the error. -/
def gl (i : Nat) : List Nat → Nat × Nat
  | [] => (0, 8)
  | x :: r =>
    if i = 9 ∧ 1 < x then (0, 14)
    else if 128 ≤ x then up 1 (gl (i + 1) r)
    else if x = 0 ∧ 0 < i then (0, 10) else (1, 0)

theorem gl_zero (i : Nat) (l : List Nat) : (gl i l).2 ≠ 0 → (gl i l).1 = 0 := by
  cases l with
  | nil => simp [gl]
  | cons x r =>
    simp only [gl]; repeat' split
    all_goals simp_all [up]

theorem gl_len (i : Nat) (l : List Nat) (hi : i ≤ 9) : (gl i l).2 = 0 → 1 ≤ (gl i l).1 ∧ (gl i l).1 ≤ l.length ∧ (gl i l).1 + i ≤ 10 := by
  induction l generalizing i with
  | nil => simp [gl]
  | cons x r ih =>
    rw [gl]
    by_cases h1 : i = 9 ∧ 1 < x
    · rw [if_pos h1]; simp
    · rw [if_neg h1]
      by_cases h2 : 128 ≤ x
      · rw [if_pos h2]
        have h9 : i < 9 := by omega
        have := ih (i + 1) (by omega)
        unfold up
        intro h
        simp only at h
        simp only [h, if_true, List.length_cons]
        have := this h
        omega
      · rw [if_neg h2]
        split <;> simp
        omega

/-- The errors there are. -/
theorem gl_err (i : Nat) (l : List Nat) : (gl i l).2 = 0 ∨ (gl i l).2 = 8 ∨ (gl i l).2 = 14 ∨ (gl i l).2 = 10 := by
  induction l generalizing i with
  | nil => simp [gl]
  | cons x r ih =>
    have := ih (i + 1)
    simp only [gl]; repeat' split
    all_goals simp_all [up]

/-- The answer of Get. -/
def gv (l : List Nat) : Nat := if (gl 0 l).2 = 0 then vv (l.take (gl 0 l).1) else 0

theorem gl_at (l : List Nat) (j : Nat) (hj : j < l.length) : gl j (l.drop j) = if j = 9 ∧ 1 < l.getD j 0 then (0, 14)
    else if 128 ≤ l.getD j 0 then up 1 (gl (j + 1) (l.drop (j + 1)))
    else if l.getD j 0 = 0 ∧ 0 < j then (0, 10) else (1, 0) := by
  have hd : l.drop j = l.getD j 0 :: l.drop (j + 1) := by
    rw [List.drop_eq_getElem_cons hj]; simp [List.getD, hj]
  rw [hd, gl]

/-- One step ahead: the bytes that went by have all their top bit. -/
theorem gl_step (l : List Nat) (j : Nat) (hj : j ≤ l.length) (h9 : j ≤ 9) (h : ∀ i, i < j → 128 ≤ l.getD i 0) : gl 0 l = up j (gl j (l.drop j)) := by
  induction j with
  | zero =>
    have := gl_zero 0 l
    unfold up
    simp only [List.drop_zero, Nat.add_zero]
    split
    · rfl
    · rename_i h; exact Prod.ext (this h) rfl
  | succ j ih =>
    have hx := h j (by omega)
    rw [ih (by omega) (by omega) (fun i hi => h i (by omega)), gl_at l j (by omega), if_neg (by omega), if_pos hx, up_up]

/-- The four endings. -/
theorem gl_cut (l : List Nat) (hl : l.length ≤ 9) (h : ∀ i, i < l.length → 128 ≤ l.getD i 0) : gl 0 l = (0, 8) := by
  rw [gl_step l l.length (Nat.le_refl _) hl h, List.drop_length]; rfl

theorem gl_over (l : List Nat) (hl : 9 < l.length) (h : ∀ i, i < 9 → 128 ≤ l.getD i 0) (hx : 1 < l.getD 9 0) : gl 0 l = (0, 14) := by
  rw [gl_step l 9 (by omega) (by omega) h, gl_at l 9 hl, if_pos ⟨rfl, hx⟩]; rfl

theorem gl_bad (l : List Nat) (j : Nat) (hj : j < l.length) (h0 : 0 < j) (h9 : j ≤ 9) (h : ∀ i, i < j → 128 ≤ l.getD i 0) (hx : l.getD j 0 = 0) : gl 0 l = (0, 10) := by
  rw [gl_step l j (by omega) h9 h, gl_at l j hj, if_neg (by omega), if_neg (by omega), if_pos ⟨hx, h0⟩]; rfl

theorem gl_ok (l : List Nat) (j : Nat) (hj : j < l.length) (h9 : j ≤ 9) (h : ∀ i, i < j → 128 ≤ l.getD i 0) (hx : l.getD j 0 < 128) (h1 : ¬ (j = 9 ∧ 1 < l.getD j 0)) (h2 : ¬ (l.getD j 0 = 0 ∧ 0 < j)) : gl 0 l = (j + 1, 0) := by
  rw [gl_step l j (by omega) h9 h, gl_at l j hj, if_neg h1, if_neg (by omega), if_neg h2]
  unfold up; simp; omega

/-- What was put, and anything behind it, is read as it was. -/
theorem gl_vb (v i : Nat) (r : List Nat) (hv : v < 18446744073709551616 / 128 ^ i) (hi : i ≤ 9) (h0 : 0 < i → 0 < v) : gl i (vb v ++ r) = ((vb v).length, 0) := by
  induction v using Nat.strongRecOn generalizing i with
  | _ v ih =>
    by_cases h : v < 128
    · rw [vb_lt h, List.cons_append, gl, if_neg, if_neg (by omega), if_neg (by omega)]
      · rfl
      · rintro ⟨rfl, h⟩
        simp at hv
        omega
    · have hi9 : i < 9 := by
        rcases Nat.lt_or_ge i 9 with h | h
        · exact h
        · exfalso
          obtain rfl : i = 9 := by omega
          simp at hv
          omega
      have hv2 : v / 128 < 18446744073709551616 / 128 ^ (i + 1) := by
        have hm : i = 0 ∨ i = 1 ∨ i = 2 ∨ i = 3 ∨ i = 4 ∨ i = 5 ∨ i = 6 ∨ i = 7 ∨ i = 8 := by omega
        rcases hm with rfl | rfl | rfl | rfl | rfl | rfl | rfl | rfl | rfl <;> simp at hv ⊢ <;> omega
      have := ih (v / 128) (by omega) (i + 1) hv2 (by omega) (by intro _; omega)
      rw [vb_ge h, List.cons_append, gl, if_neg (by omega), if_pos (by omega), this]
      unfold up
      simp

theorem gv_vb (v : Nat) (r : List Nat) (hv : v < 18446744073709551616) : gl 0 (vb v ++ r) = ((vb v).length, 0) ∧ gv (vb v ++ r) = v := by
  have h := gl_vb v 0 r (by simpa using hv) (by omega) (by omega)
  refine ⟨h, ?_⟩
  unfold gv
  rw [h]
  simp [vv_vb]

/-- All bytes but the last have their top bit. -/
theorem vb_top (v : Nat) : ∀ i, i + 1 < (vb v).length → 128 ≤ (vb v).getD i 0 := by
  induction v using Nat.strongRecOn with
  | _ v ih =>
    intro i hi
    by_cases h : v < 128
    · rw [vb_lt h] at hi; simp at hi
    · rw [vb_ge h] at hi ⊢
      cases i with
      | zero => simp
      | succ i => 
        simp only [List.length_cons] at hi
        have := ih (v / 128) (by omega) i (by omega)
        simpa using this

theorem vb_cut (v : Nat) (hv : v < 18446744073709551616) : gl 0 ((vb v).take ((vb v).length - 1)) = (0, 8) := by
  have hl := vb_len64 hv
  have e : ((vb v).take ((vb v).length - 1)).length = (vb v).length - 1 := by simp
  refine gl_cut _ (by omega) fun i hi => ?_
  have := vb_top v i (by omega)
  rw [e] at hi
  rw [show ((vb v).take ((vb v).length - 1)).getD i 0 = (vb v).getD i 0 by simp only [List.getD, List.getElem?_take, if_pos hi]]
  exact this

end Go.Proofs.YtohgnbgijleoaaaDoor
