/- Plain words on bits: a row of numbers as one number, cut to words again. -/
import Derived.WalkKit
namespace Go.Proofs.Ytegidbbigjhapaa
set_option linter.unusedVariables false

/-- The words of w bits each, one behind the other, the first one lowest, as one number. -/
def strm (w : Nat) : List Nat → Nat
  | [] => 0
  | x :: xs => x % 2 ^ w + 2 ^ w * strm w xs

theorem tb_strm (w : Nat) : ∀ (l : List Nat) (i k : Nat), k < w → (strm w l).testBit (w * i + k) = (l.getD i 0).testBit k
  | [], i, k, _ => by simp [strm]
  | x :: xs, 0, k, hk => by
    rw [strm, Nat.mul_zero, Nat.zero_add, Nat.add_comm, Nat.testBit_two_pow_mul_add _ (Nat.mod_lt _ (Nat.two_pow_pos w)), if_pos hk, Nat.testBit_mod_two_pow]
    simp [hk]
  | x :: xs, i + 1, k, hk => by
    have e : w * (i + 1) + k = w + (w * i + k) := by rw [Nat.mul_add]; omega
    rw [strm, Nat.add_comm (x % 2 ^ w), e, Nat.testBit_two_pow_mul_add _ (Nat.mod_lt _ (Nat.two_pow_pos w)), if_neg (by omega), Nat.add_sub_cancel_left, tb_strm w xs i k hk]
    simp

theorem strm_lt (w : Nat) : ∀ l : List Nat, strm w l < 2 ^ (w * l.length)
  | [] => by simp [strm]
  | x :: xs => by
    have h := strm_lt w xs
    have h2 := Nat.mod_lt x (Nat.two_pow_pos w)
    have e : 2 ^ (w * (x :: xs).length) = 2 ^ w * 2 ^ (w * xs.length) := by rw [List.length_cons, Nat.mul_add, Nat.mul_one, Nat.pow_add, Nat.mul_comm]
    rw [strm, e]
    have : 2 ^ w * (strm w xs + 1) ≤ 2 ^ w * 2 ^ (w * xs.length) := Nat.mul_le_mul_left _ h
    rw [Nat.mul_add] at this
    omega

/-- Of X's lowest n bits those of the j-th word of t bits. -/
def wd (X n t j : Nat) : Nat := X % 2 ^ n / 2 ^ (t * j) % 2 ^ t

theorem tb_wd (X n t j i : Nat) : (wd X n t j).testBit i = (decide (i < t) && (decide (t * j + i < n) && X.testBit (t * j + i))) := by
  rw [wd, Nat.testBit_mod_two_pow, Nat.testBit_div_two_pow, Nat.testBit_mod_two_pow, Nat.add_comm i]

theorem wd_lt (X n t j : Nat) : wd X n t j < 2 ^ t := Nat.mod_lt _ (Nat.two_pow_pos t)

/-- So many words of X's lowest n bits. -/
def pk (X n t cnt : Nat) : List Nat := (List.range cnt).map (wd X n t)

@[simp] theorem pk_length (X n t cnt : Nat) : (pk X n t cnt).length = cnt := by simp [pk]

theorem pk_get (X n t cnt j : Nat) (h : j < cnt) : (pk X n t cnt)[j]? = some (wd X n t j) := by simp [pk, h]

theorem pk_getD (X n t cnt j : Nat) (h : j < cnt) : (pk X n t cnt).getD j 0 = wd X n t j := by rw [List.getD, pk_get _ _ _ _ _ h]; rfl

theorem pk_zero (X t cnt : Nat) : pk X 0 t cnt = List.replicate cnt 0 := by
  apply List.ext_getElem (by simp)
  intro i h1 h2
  simp [pk, wd, Nat.mod_one]

/-- n rises by k within the word q: this word alone changes. -/
theorem pk_step (X n t cnt k q : Nat) (hq : t * q ≤ n) (hk : n + k ≤ t * (q + 1)) (v : Nat) (hv : ∀ i, v.testBit i = (decide (i < t) && (decide (t * q + i < n + k) && X.testBit (t * q + i)))) :
    pk X (n + k) t cnt = (pk X n t cnt).set q v := by
  apply List.ext_getElem?
  intro j
  rw [List.getElem?_set]
  simp only [pk_length]
  by_cases hj : j < cnt
  · rw [pk_get _ _ _ _ _ hj, pk_get _ _ _ _ _ hj]
    by_cases e : q = j
    · subst e
      rw [if_pos rfl, if_pos hj]
      congr 1
      apply Nat.eq_of_testBit_eq
      intro i
      rw [tb_wd, hv]
    · rw [if_neg e]
      congr 1
      apply Nat.eq_of_testBit_eq
      intro i
      rw [tb_wd, tb_wd]
      by_cases hi : i < t
      · rcases Nat.lt_or_gt_of_ne e with h | h
        · have : t * (q + 1) ≤ t * j := Nat.mul_le_mul_left _ h
          have a1 : ¬ t * j + i < n + k := by omega
          have a2 : ¬ t * j + i < n := by omega
          simp [a1, a2]
        · have h3 : t * (j + 1) ≤ t * q := Nat.mul_le_mul_left _ h
          rw [Nat.mul_add, Nat.mul_one] at h3
          have a1 : t * j + i < n + k := by omega
          have a2 : t * j + i < n := by omega
          simp [a1, a2]
      · simp [hi]
  · simp [hj, pk]
    intro h; omega

/-- The step of a move: k bits from within one word of f bits to within one word of t bits. -/
theorem wd_move (X n t f k s : Nat) (ht : 0 < t) (hf : 0 < f) (hk : k ≤ t - n % t) (hk2 : k ≤ f - n % f) (hs : ∀ i, i < f → s.testBit i = X.testBit (f * (n / f) + i)) (i : Nat) :
    (wd X n t (n / t) ||| ((s / 2 ^ (n % f)) % 2 ^ k) * 2 ^ (n % t)).testBit i = (decide (i < t) && (decide (t * (n / t) + i < n + k) && X.testBit (t * (n / t) + i))) := by
  have e1 := Nat.div_add_mod n t
  have e2 := Nat.div_add_mod n f
  have l1 := Nat.mod_lt n ht
  have l2 := Nat.mod_lt n hf
  rw [Nat.testBit_or, tb_wd, Nat.mul_comm _ (2 ^ (n % t)), Nat.testBit_two_pow_mul, Nat.testBit_mod_two_pow, Nat.testBit_div_two_pow]
  generalize hq : t * (n / t) = q at *
  generalize hr : n % t = r at *
  generalize hp : f * (n / f) = p at *
  generalize hu : n % f = u at *
  by_cases c1 : i < t
  · by_cases c2 : q + i < n
    · have c3 : q + i < n + k := by omega
      have c4 : ¬ r ≤ i := by omega
      simp [c1, c2, c3, c4]
    · have c4 : r ≤ i := by omega
      by_cases c3 : q + i < n + k
      · have c5 : i - r < k := by omega
        rw [hs _ (by omega)]
        have e3 : p + (i - r + u) = q + i := by omega
        simp [c1, c2, c3, c4, c5, e3]
      · have c5 : ¬ i - r < k := by omega
        simp [c1, c2, c3, c4, c5]
  · have c5 : ¬ (r ≤ i ∧ i - r < k) := by omega
    simp [c1]
    intro a b
    omega

theorem wd_move_lt (X n t f k s : Nat) (ht : 0 < t) (hf : 0 < f) (hk : k ≤ t - n % t) (hk2 : k ≤ f - n % f) : ((s / 2 ^ (n % f)) % 2 ^ k) * 2 ^ (n % t) < 2 ^ t := by
  have l1 := Nat.mod_lt n ht
  have h := Nat.mod_lt (s / 2 ^ (n % f)) (Nat.two_pow_pos k)
  have e : 2 ^ (k + n % t) = 2 ^ k * 2 ^ (n % t) := Nat.pow_add _ _ _
  have h2 : 2 ^ (k + n % t) ≤ 2 ^ t := Nat.pow_le_pow_right (by decide) (by omega)
  have h3 : ((s / 2 ^ (n % f)) % 2 ^ k) * 2 ^ (n % t) < 2 ^ k * 2 ^ (n % t) := Nat.mul_lt_mul_of_pos_right h (Nat.two_pow_pos _)
  omega

theorem pk_move (X n t f k s cnt : Nat) (ht : 0 < t) (hf : 0 < f) (hk : k ≤ t - n % t) (hk2 : k ≤ f - n % f) (hs : ∀ i, i < f → s.testBit i = X.testBit (f * (n / f) + i)) :
    pk X (n + k) t cnt = (pk X n t cnt).set (n / t) (wd X n t (n / t) ||| ((s / 2 ^ (n % f)) % 2 ^ k) * 2 ^ (n % t)) := by
  have e1 := Nat.div_add_mod n t
  have l1 := Nat.mod_lt n ht
  refine pk_step X n t cnt k (n / t) (by omega) (by rw [Nat.mul_add, Nat.mul_one]; omega) _ (wd_move X n t f k s ht hf hk hk2 hs)

/-- One bit more, of a word that has it. -/
theorem pk_bit (X n t cnt : Nat) (ht : 0 < t) (hb : X.testBit n = true) : pk X (n + 1) t cnt = (pk X n t cnt).set (n / t) (wd X n t (n / t) ||| 2 ^ (n % t)) := by
  have e1 := Nat.div_add_mod n t
  have l1 := Nat.mod_lt n ht
  refine pk_step X n t cnt 1 (n / t) (by omega) (by rw [Nat.mul_add, Nat.mul_one]; omega) _ fun i => ?_
  rw [Nat.testBit_or, tb_wd, Nat.testBit_two_pow]
  by_cases e : n % t = i
  · have h3 : t * (n / t) + i = n := by omega
    rw [h3, hb]
    have : i < t := by omega
    simp [e, this]
  · by_cases h : t * (n / t) + i < n
    · have : t * (n / t) + i < n + 1 := by omega
      simp [h, this, e]
    · have : ¬ t * (n / t) + i < n + 1 := by omega
      simp [h, this, e]

theorem wd_nobit (X n t j : Nat) (hb : X.testBit n = false) : wd X (n + 1) t j = wd X n t j := by
  apply Nat.eq_of_testBit_eq
  intro i
  rw [tb_wd, tb_wd]
  by_cases e : t * j + i = n
  · rw [e, hb]; simp
  · by_cases h : t * j + i < n
    · have : t * j + i < n + 1 := by omega
      simp [h, this]
    · have : ¬ t * j + i < n + 1 := by omega
      simp [h, this]

theorem pk_nobit (X n t cnt : Nat) (hb : X.testBit n = false) : pk X (n + 1) t cnt = pk X n t cnt := by
  unfold pk
  apply List.map_congr_left
  intro j _
  exact wd_nobit X n t j hb

/-- A word, bit by bit. -/
theorem wd_next (X w i k : Nat) (hk : k < w) : wd X (w * i + (k + 1)) w i = wd X (w * i + k) w i ||| (if X.testBit (w * i + k) then 1 else 0) * 2 ^ k := by
  apply Nat.eq_of_testBit_eq
  intro j
  rw [Nat.testBit_or, tb_wd, tb_wd]
  by_cases hb : X.testBit (w * i + k) = true
  · rw [if_pos hb, Nat.one_mul, Nat.testBit_two_pow]
    by_cases e : k = j
    · subst e; simp [hk, hb]
    · by_cases h : j < k
      · have a1 : w * i + j < w * i + (k + 1) := by omega
        have a2 : w * i + j < w * i + k := by omega
        simp [a1, a2, e]
      · have a1 : ¬ w * i + j < w * i + (k + 1) := by omega
        have a2 : ¬ w * i + j < w * i + k := by omega
        simp [a1, a2, e]
  · rw [if_neg hb, Nat.zero_mul, Nat.zero_testBit]
    by_cases e : j = k
    · subst e
      have : X.testBit (w * i + j) = false := by simpa using hb
      simp [this]
    · by_cases h : j < k
      · have a1 : w * i + j < w * i + (k + 1) := by omega
        have a2 : w * i + j < w * i + k := by omega
        simp [a1, a2]
      · have a1 : ¬ w * i + j < w * i + (k + 1) := by omega
        have a2 : ¬ w * i + j < w * i + k := by omega
        simp [a1, a2]

theorem wd_none (X w i : Nat) : wd X (w * i) w i = 0 := by
  apply Nat.eq_of_testBit_eq
  intro j
  rw [tb_wd, Nat.zero_testBit]
  have a2 : ¬ w * i + j < w * i := by omega
  simp [a2]

/-- A word that is whole does not know of bits behind it. -/
theorem wd_whole (X n t j : Nat) (h : t * (j + 1) ≤ n) : wd X n t j = X / 2 ^ (t * j) % 2 ^ t := by
  rw [Nat.mul_add, Nat.mul_one] at h
  apply Nat.eq_of_testBit_eq
  intro i
  rw [tb_wd, Nat.testBit_mod_two_pow, Nat.testBit_div_two_pow, Nat.add_comm i]
  by_cases hi : i < t
  · have : t * j + i < n := by omega
    simp [hi, this]
  · simp [hi]

theorem wd_strm (w : Nat) (l : List Nat) (j : Nat) (n : Nat) (h : w * (j + 1) ≤ n) : wd (strm w l) n w j = l.getD j 0 % 2 ^ w := by
  rw [Nat.mul_add, Nat.mul_one] at h
  apply Nat.eq_of_testBit_eq
  intro i
  rw [tb_wd, Nat.testBit_mod_two_pow]
  by_cases hi : i < w
  · rw [tb_strm w l j i hi]
    have : w * j + i < n := by omega
    simp [hi, this]
  · simp [hi]

/-- What is packed and read is the lowest bits. -/
theorem pk_back (w : Nat) (l : List Nat) : pk (strm w l) (w * l.length) w l.length = l.map (· % 2 ^ w) := by
  apply List.ext_getElem (by simp)
  intro i h1 h2
  rw [pk_length] at h1
  have e : (pk (strm w l) (w * l.length) w l.length)[i] = wd (strm w l) (w * l.length) w i := by simp [pk]
  rw [e, wd_strm w l i _ (Nat.mul_le_mul_left _ h1)]
  simp [List.getD, h1]

/-- The words of a number make the number's lowest bits. -/
theorem strm_pk (X n t : Nat) : ∀ cnt, strm t (pk X n t cnt) = X % 2 ^ n % 2 ^ (t * cnt) := by
  intro cnt
  apply Nat.eq_of_testBit_eq
  intro i
  rw [Nat.testBit_mod_two_pow, Nat.testBit_mod_two_pow]
  rcases Nat.eq_zero_or_pos t with rfl | ht
  · have h := strm_lt 0 (pk X n 0 cnt)
    rw [Nat.zero_mul, Nat.pow_zero] at h
    have : strm 0 (pk X n 0 cnt) = 0 := by omega
    rw [this]
    simp
  by_cases hi : i < t * cnt
  · have e1 := Nat.div_add_mod i t
    have l1 := Nat.mod_lt i ht
    have hq : i / t < cnt := (Nat.div_lt_iff_lt_mul ht).2 (by rw [Nat.mul_comm]; exact hi)
    have h := tb_strm t (pk X n t cnt) (i / t) (i % t) l1
    rw [e1, pk_getD _ _ _ _ _ hq, tb_wd, e1] at h
    rw [h]
    simp [l1, hi]
  · have h := strm_lt t (pk X n t cnt)
    rw [pk_length] at h
    rw [Nat.testBit_lt_two_pow (Nat.lt_of_lt_of_le h (Nat.pow_le_pow_right (by decide) (by omega)))]
    simp [hi]

/-- A row of words that are none too great is the words of its number. -/
theorem pk_strm (t : Nat) (l : List Nat) (hl : ∀ x ∈ l, x < 2 ^ t) (n : Nat) (h : t * l.length ≤ n) : pk (strm t l) n t l.length = l := by
  apply List.ext_getElem (by simp)
  intro i h1 h2
  have e : (pk (strm t l) n t l.length)[i] = wd (strm t l) n t i := by simp [pk]
  rw [e, wd_strm t l i _ (Nat.le_trans (Nat.mul_le_mul_left _ h2) h)]
  have : l.getD i 0 = l[i] := by simp [List.getD, h2]
  rw [this]
  exact Nat.mod_eq_of_lt (hl _ (List.getElem_mem h2))

end Go.Proofs.Ytegidbbigjhapaa
