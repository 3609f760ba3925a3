/- Sums as lists: one bit's step, a byte's, a row's; all of it linear; where two rows differ within 32 bits their sums differ. -/
import Derived.Test.YthmdebnmjlminaaDoorNv
namespace Go.Proofs.YthmdebnmjlminaaDoor
set_option linter.unusedVariables false

def poly : Nat := 3988292384
def ones : Nat := 4294967295

/-- One bit's step. -/
def st (n : Nat) : Nat := n / 2 ^^^ (if n % 2 = 1 then poly else 0)
/-- So many of them. -/
def sts : Nat → Nat → Nat
  | 0, n => n
  | k + 1, n => sts k (st n)

theorem sts_add (a b n : Nat) : sts (a + b) n = sts b (sts a n) := by
  induction a generalizing n with
  | zero => simp [sts]
  | succ a ih => rw [show a + 1 + b = (a + b) + 1 by omega, sts, sts, ih]

theorem xor4 (a b c d : Nat) : (a ^^^ b) ^^^ (c ^^^ d) = (a ^^^ c) ^^^ (b ^^^ d) := by
  rw [Nat.xor_assoc, Nat.xor_assoc]
  congr 1
  rw [← Nat.xor_assoc, ← Nat.xor_assoc, Nat.xor_comm b c]

theorem st_xor (a b : Nat) : st (a ^^^ b) = st a ^^^ st b := by
  unfold st
  rw [xor4, Nat.xor_div_two]
  congr 1
  have h := @Nat.xor_mod_two_eq_one a b
  by_cases ha : a % 2 = 1 <;> by_cases hb : b % 2 = 1 <;> simp_all

theorem sts_xor (k a b : Nat) : sts k (a ^^^ b) = sts k a ^^^ sts k b := by
  induction k generalizing a b with
  | zero => rfl
  | succ k ih => rw [sts, sts, sts, st_xor, ih]

theorem sts_zero (k : Nat) : sts k 0 = 0 := by
  have h := sts_xor k 0 0
  rw [Nat.xor_self, Nat.xor_self] at h
  exact h

theorem st_even (n : Nat) : st (2 * n) = n := by
  unfold st
  rw [show 2 * n / 2 = n by omega, if_neg (by omega), Nat.xor_zero]

theorem sts_pow (k n : Nat) : sts k (2 ^ k * n) = n := by
  induction k with
  | zero => simp [sts]
  | succ k ih => rw [sts, show 2 ^ (k + 1) * n = 2 * (2 ^ k * n) by rw [Nat.pow_succ, Nat.mul_comm (2 ^ k) 2, Nat.mul_assoc], st_even, ih]

theorem xor_lt {a b : Nat} (k : Nat) (ha : a < 2 ^ k) (hb : b < 2 ^ k) : a ^^^ b < 2 ^ k := Nat.xor_lt_two_pow ha hb

theorem st_lt {n : Nat} (h : n < 2 ^ 32) : st n < 2 ^ 32 := by
  unfold st
  refine xor_lt 32 (by omega) ?_
  split <;> simp [poly]

theorem sts_lt (k : Nat) {n : Nat} (h : n < 2 ^ 32) : sts k n < 2 ^ 32 := by
  induction k generalizing n with
  | zero => exact h
  | succ k ih => exact ih (st_lt h)

theorem xor_zero_iff (a b : Nat) : a ^^^ b = 0 ↔ a = b := by
  constructor
  · intro h
    have e : (a ^^^ b) ^^^ b = b := by rw [h, Nat.zero_xor]
    rwa [Nat.xor_assoc, Nat.xor_self, Nat.xor_zero] at e
  · intro h; rw [h, Nat.xor_self]

theorem st_inj {n : Nat} (h : n < 2 ^ 32) (h0 : st n = 0) : n = 0 := by
  unfold st at h0
  have e := (xor_zero_iff _ _).1 h0
  by_cases hm : n % 2 = 1
  · rw [if_pos hm] at e
    unfold poly at e
    omega
  · rw [if_neg hm] at e
    omega

theorem sts_inj (k : Nat) {n : Nat} (h : n < 2 ^ 32) (h0 : sts k n = 0) : n = 0 := by
  induction k generalizing n with
  | zero => exact h0
  | succ k ih => exact st_inj h (ih (st_lt h) h0)

/-- What does not overlap. -/
theorem xor_add (k a b : Nat) (hb : b < 2 ^ k) : 2 ^ k * a ^^^ b = 2 ^ k * a + b := by
  apply Nat.eq_of_testBit_eq
  intro j
  rw [Nat.testBit_xor, Nat.testBit_two_pow_mul_add _ hb, Nat.testBit_two_pow_mul]
  by_cases hj : j < k
  · simp [hj, show ¬ k ≤ j by omega]
  · have : b.testBit j = false := Nat.testBit_lt_two_pow (Nat.lt_of_lt_of_le hb (Nat.pow_le_pow_right (by decide) (by omega)))
    simp [hj, this]; omega

/-- The table, and what it is. -/
def tabN : List Nat := [0, 498536548, 997073096, 651767980, 1994146192, 1802195444, 1303535960, 1342533948, 3988292384, 4027552580, 3604390888, 3412177804, 2607071920, 2262029012, 2685067896, 3183342108]

theorem tab_st : ∀ r, r < 16 → tabN.getD r 0 = sts 4 r := by decide
theorem tab_lt : ∀ r, r < 16 → tabN.getD r 0 < 4294967296 := by decide

theorem step_st (s : Nat) : s / 16 ^^^ tabN.getD (s % 16) 0 = sts 4 s := by
  have e : s = 2 ^ 4 * (s / 16) ^^^ s % 16 := by rw [xor_add 4 _ _ (Nat.mod_lt _ (by decide))]; omega
  have h2 : sts 4 s = sts 4 (2 ^ 4 * (s / 16)) ^^^ sts 4 (s % 16) := by rw [← sts_xor, ← e]
  rw [h2, sts_pow, tab_st _ (Nat.mod_lt _ (by decide))]

/-- A row, one byte after the other. -/
def reg : Nat → List Nat → Nat
  | s, [] => s
  | s, b :: l => reg (sts 8 (s ^^^ b)) l

theorem reg_append (s : Nat) (a b : List Nat) : reg s (a ++ b) = reg (reg s a) b := by
  induction a generalizing s with
  | nil => rfl
  | cons x a ih => rw [List.cons_append, reg, reg, ih]

/-- A row's sum. -/
def crc (l : List Nat) : Nat := ones ^^^ reg ones l

/-- A row as one number. -/
def num : List Nat → Nat
  | [] => 0
  | b :: l => 2 ^ 8 * num l ^^^ b

theorem reg_eq (s : Nat) (l : List Nat) : reg s l = sts (8 * l.length) (s ^^^ num l) := by
  induction l generalizing s with
  | nil => simp [reg, num, sts]
  | cons b l ih =>
    rw [reg, ih, num, List.length_cons, show 8 * (l.length + 1) = 8 + 8 * l.length by omega, sts_add]
    congr 1
    rw [show s ^^^ (2 ^ 8 * num l ^^^ b) = (s ^^^ b) ^^^ 2 ^ 8 * num l by rw [Nat.xor_comm (2 ^ 8 * num l), Nat.xor_assoc], sts_xor 8 (s ^^^ b), sts_pow]

theorem reg_lt {s : Nat} {l : List Nat} (hs : s < 2 ^ 32) (hb : ∀ x ∈ l, x < 2 ^ 8) : reg s l < 2 ^ 32 := by
  induction l generalizing s with
  | nil => exact hs
  | cons b l ih =>
    have : b < 2 ^ 8 := hb b (by simp)
    exact ih (sts_lt 8 (xor_lt 32 hs (by omega))) (fun x hx => hb x (by simp [hx]))

theorem crc_lt {l : List Nat} (hb : ∀ x ∈ l, x < 2 ^ 8) : crc l < 2 ^ 32 := xor_lt 32 (by decide) (reg_lt (by decide) hb)

theorem crc_xor (a b : List Nat) (h : a.length = b.length) : crc a ^^^ crc b = sts (8 * a.length) (num a ^^^ num b) := by
  unfold crc
  rw [xor4, Nat.xor_self, Nat.zero_xor, reg_eq, reg_eq, ← h, ← sts_xor, xor4, Nat.xor_self, Nat.zero_xor]

/-- Where rows differ within 32 bits: their sums are one just where nothing differs. -/
theorem crc_near (a b : List Nat) (h : a.length = b.length) (m k : Nat) (hm : m < 2 ^ 32) (hk : k ≤ 8 * a.length) (he : num a ^^^ num b = 2 ^ k * m) : crc a = crc b ↔ m = 0 := by
  have e := crc_xor a b h
  rw [he, show 8 * a.length = k + (8 * a.length - k) by omega, sts_add, sts_pow] at e
  constructor
  · intro hc
    rw [hc, Nat.xor_self] at e
    exact sts_inj _ hm e.symm
  · intro h0
    rw [h0, sts_zero] at e
    exact (xor_zero_iff _ _).1 e

theorem num_set (l : List Nat) (p v : Nat) (hp : p < l.length) : num (l.set p v) ^^^ num l = 2 ^ (8 * p) * (v ^^^ l.getD p 0) := by
  induction l generalizing p with
  | nil => simp at hp
  | cons b l ih =>
    cases p with
    | zero =>
      rw [List.set_cons_zero, num, num, xor4, Nat.xor_self, Nat.zero_xor]
      simp
    | succ p =>
      have h := ih p (by simpa using hp)
      rw [List.set_cons_succ, num, num, xor4, Nat.xor_self, Nat.xor_zero]
      have e : 2 ^ 8 * num (l.set p v) ^^^ 2 ^ 8 * num l = 2 ^ 8 * (num (l.set p v) ^^^ num l) := by
        rw [Nat.mul_comm, Nat.mul_comm (2 ^ 8) (num l), Nat.mul_comm (2 ^ 8), ← Nat.shiftLeft_eq, ← Nat.shiftLeft_eq, ← Nat.shiftLeft_eq, Nat.shiftLeft_xor_distrib]
      rw [e, h, ← Nat.mul_assoc, ← Nat.pow_add, show 8 + 8 * p = 8 * (p + 1) by omega]
      simp [List.getD]

end Go.Proofs.YthmdebnmjlminaaDoor
