/- Bm, Mv, Pk, Rf: texts of one group, one behind the other. -/
import Derived.WalkKit
import Derived.Test.YtlhdicbhanncnaaRows
import Derived.Test.YtlhdicbhanncnaaA1
import Derived.Deep.QuietTactic
import Derived.BigQuiet
import Derived.BigRegion
import Derived.Outline
import Derived.StillTailTactics
namespace Go.Proofs.Ytlhdicbhanncnaa
set_option linter.unusedVariables false

/-- The words of w bits each, one behind the other, the first one lowest, as one number. -/
def strm (w : Nat) : List Nat → Nat
  | [] => 0
  | x :: xs => x % 2 ^ w + 2 ^ w * strm w xs

theorem tb_strm (w : Nat) : ∀ (l : List Nat) (i k : Nat), k < w → (strm w l).testBit (w * i + k) = (l.getD i 0).testBit k
  | [], i, k, _ => by simp [strm]
  | x :: xs, 0, k, hk => by
    rw [strm, Nat.mul_zero, Nat.zero_add, Nat.add_comm, Nat.testBit_two_pow_mul_add _ (Nat.mod_lt _ (Nat.two_pow_pos w)), if_pos hk, Nat.testBit_mod_two_pow]
    simp [hk]
  | x :: xs, i + 1, k, hk => by
    have e : w * (i + 1) + k = w + (w * i + k) := by rw [Nat.mul_add]; omega
    rw [strm, Nat.add_comm (x % 2 ^ w), e, Nat.testBit_two_pow_mul_add _ (Nat.mod_lt _ (Nat.two_pow_pos w)), if_neg (by omega), Nat.add_sub_cancel_left, tb_strm w xs i k hk]
    simp

theorem strm_lt (w : Nat) : ∀ l : List Nat, strm w l < 2 ^ (w * l.length)
  | [] => by simp [strm]
  | x :: xs => by
    have h := strm_lt w xs
    have h2 := Nat.mod_lt x (Nat.two_pow_pos w)
    have e : 2 ^ (w * (x :: xs).length) = 2 ^ w * 2 ^ (w * xs.length) := by rw [List.length_cons, Nat.mul_add, Nat.mul_one, Nat.pow_add, Nat.mul_comm]
    rw [strm, e]
    have : 2 ^ w * (strm w xs + 1) ≤ 2 ^ w * 2 ^ (w * xs.length) := Nat.mul_le_mul_left _ h
    rw [Nat.mul_add] at this
    omega

/-- Of X's lowest n bits those of the j-th word of t bits. -/
def wd (X n t j : Nat) : Nat := X % 2 ^ n / 2 ^ (t * j) % 2 ^ t

theorem tb_wd (X n t j i : Nat) : (wd X n t j).testBit i = (decide (i < t) && (decide (t * j + i < n) && X.testBit (t * j + i))) := by
  rw [wd, Nat.testBit_mod_two_pow, Nat.testBit_div_two_pow, Nat.testBit_mod_two_pow, Nat.add_comm i]

theorem wd_lt (X n t j : Nat) : wd X n t j < 2 ^ t := Nat.mod_lt _ (Nat.two_pow_pos t)

/-- So many words of X's lowest n bits. -/
def pk (X n t cnt : Nat) : List Nat := (List.range cnt).map (wd X n t)

@[simp] theorem pk_length (X n t cnt : Nat) : (pk X n t cnt).length = cnt := by simp [pk]

theorem pk_get (X n t cnt j : Nat) (h : j < cnt) : (pk X n t cnt)[j]? = some (wd X n t j) := by simp [pk, h]

theorem pk_getD (X n t cnt j : Nat) (h : j < cnt) : (pk X n t cnt).getD j 0 = wd X n t j := by rw [List.getD, pk_get _ _ _ _ _ h]; rfl

theorem pk_zero (X t cnt : Nat) : pk X 0 t cnt = List.replicate cnt 0 := by
  apply List.ext_getElem (by simp)
  intro i h1 h2
  simp [pk, wd, Nat.mod_one]

/-- n rises by k within the word q: this word alone changes. -/
theorem pk_step (X n t cnt k q : Nat) (hq : t * q ≤ n) (hk : n + k ≤ t * (q + 1)) (v : Nat) (hv : ∀ i, v.testBit i = (decide (i < t) && (decide (t * q + i < n + k) && X.testBit (t * q + i)))) :
    pk X (n + k) t cnt = (pk X n t cnt).set q v := by
  apply List.ext_getElem?
  intro j
  rw [List.getElem?_set]
  simp only [pk_length]
  by_cases hj : j < cnt
  · rw [pk_get _ _ _ _ _ hj, pk_get _ _ _ _ _ hj]
    by_cases e : q = j
    · subst e
      rw [if_pos rfl, if_pos hj]
      congr 1
      apply Nat.eq_of_testBit_eq
      intro i
      rw [tb_wd, hv]
    · rw [if_neg e]
      congr 1
      apply Nat.eq_of_testBit_eq
      intro i
      rw [tb_wd, tb_wd]
      by_cases hi : i < t
      · rcases Nat.lt_or_gt_of_ne e with h | h
        · have : t * (q + 1) ≤ t * j := Nat.mul_le_mul_left _ h
          have a1 : ¬ t * j + i < n + k := by omega
          have a2 : ¬ t * j + i < n := by omega
          simp [a1, a2]
        · have h3 : t * (j + 1) ≤ t * q := Nat.mul_le_mul_left _ h
          rw [Nat.mul_add, Nat.mul_one] at h3
          have a1 : t * j + i < n + k := by omega
          have a2 : t * j + i < n := by omega
          simp [a1, a2]
      · simp [hi]
  · simp [hj, pk]
    intro h; omega

/-- The step of a move: k bits from within one word of f bits to within one word of t bits. -/
theorem wd_move (X n t f k s : Nat) (ht : 0 < t) (hf : 0 < f) (hk : k ≤ t - n % t) (hk2 : k ≤ f - n % f) (hs : ∀ i, i < f → s.testBit i = X.testBit (f * (n / f) + i)) (i : Nat) :
    (wd X n t (n / t) ||| ((s / 2 ^ (n % f)) % 2 ^ k) * 2 ^ (n % t)).testBit i = (decide (i < t) && (decide (t * (n / t) + i < n + k) && X.testBit (t * (n / t) + i))) := by
  have e1 := Nat.div_add_mod n t
  have e2 := Nat.div_add_mod n f
  have l1 := Nat.mod_lt n ht
  have l2 := Nat.mod_lt n hf
  rw [Nat.testBit_or, tb_wd, Nat.mul_comm _ (2 ^ (n % t)), Nat.testBit_two_pow_mul, Nat.testBit_mod_two_pow, Nat.testBit_div_two_pow]
  generalize hq : t * (n / t) = q at *
  generalize hr : n % t = r at *
  generalize hp : f * (n / f) = p at *
  generalize hu : n % f = u at *
  by_cases c1 : i < t
  · by_cases c2 : q + i < n
    · have c3 : q + i < n + k := by omega
      have c4 : ¬ r ≤ i := by omega
      simp [c1, c2, c3, c4]
    · have c4 : r ≤ i := by omega
      by_cases c3 : q + i < n + k
      · have c5 : i - r < k := by omega
        rw [hs _ (by omega)]
        have e3 : p + (i - r + u) = q + i := by omega
        simp [c1, c2, c3, c4, c5, e3]
      · have c5 : ¬ i - r < k := by omega
        simp [c1, c2, c3, c4, c5]
  · have c5 : ¬ (r ≤ i ∧ i - r < k) := by omega
    simp [c1]
    intro a b
    omega

theorem wd_move_lt (X n t f k s : Nat) (ht : 0 < t) (hf : 0 < f) (hk : k ≤ t - n % t) (hk2 : k ≤ f - n % f) : ((s / 2 ^ (n % f)) % 2 ^ k) * 2 ^ (n % t) < 2 ^ t := by
  have l1 := Nat.mod_lt n ht
  have h := Nat.mod_lt (s / 2 ^ (n % f)) (Nat.two_pow_pos k)
  have e : 2 ^ (k + n % t) = 2 ^ k * 2 ^ (n % t) := Nat.pow_add _ _ _
  have h2 : 2 ^ (k + n % t) ≤ 2 ^ t := Nat.pow_le_pow_right (by decide) (by omega)
  have h3 : ((s / 2 ^ (n % f)) % 2 ^ k) * 2 ^ (n % t) < 2 ^ k * 2 ^ (n % t) := Nat.mul_lt_mul_of_pos_right h (Nat.two_pow_pos _)
  omega

theorem pk_move (X n t f k s cnt : Nat) (ht : 0 < t) (hf : 0 < f) (hk : k ≤ t - n % t) (hk2 : k ≤ f - n % f) (hs : ∀ i, i < f → s.testBit i = X.testBit (f * (n / f) + i)) :
    pk X (n + k) t cnt = (pk X n t cnt).set (n / t) (wd X n t (n / t) ||| ((s / 2 ^ (n % f)) % 2 ^ k) * 2 ^ (n % t)) := by
  have e1 := Nat.div_add_mod n t
  have l1 := Nat.mod_lt n ht
  refine pk_step X n t cnt k (n / t) (by omega) (by rw [Nat.mul_add, Nat.mul_one]; omega) _ (wd_move X n t f k s ht hf hk hk2 hs)

/-- One bit more, of a word that has it. -/
theorem pk_bit (X n t cnt : Nat) (ht : 0 < t) (hb : X.testBit n = true) : pk X (n + 1) t cnt = (pk X n t cnt).set (n / t) (wd X n t (n / t) ||| 2 ^ (n % t)) := by
  have e1 := Nat.div_add_mod n t
  have l1 := Nat.mod_lt n ht
  refine pk_step X n t cnt 1 (n / t) (by omega) (by rw [Nat.mul_add, Nat.mul_one]; omega) _ fun i => ?_
  rw [Nat.testBit_or, tb_wd, Nat.testBit_two_pow]
  by_cases e : n % t = i
  · have h3 : t * (n / t) + i = n := by omega
    rw [h3, hb]
    have : i < t := by omega
    simp [e, this]
  · by_cases h : t * (n / t) + i < n
    · have : t * (n / t) + i < n + 1 := by omega
      simp [h, this, e]
    · have : ¬ t * (n / t) + i < n + 1 := by omega
      simp [h, this, e]

theorem wd_nobit (X n t j : Nat) (hb : X.testBit n = false) : wd X (n + 1) t j = wd X n t j := by
  apply Nat.eq_of_testBit_eq
  intro i
  rw [tb_wd, tb_wd]
  by_cases e : t * j + i = n
  · rw [e, hb]; simp
  · by_cases h : t * j + i < n
    · have : t * j + i < n + 1 := by omega
      simp [h, this]
    · have : ¬ t * j + i < n + 1 := by omega
      simp [h, this]

theorem pk_nobit (X n t cnt : Nat) (hb : X.testBit n = false) : pk X (n + 1) t cnt = pk X n t cnt := by
  unfold pk
  apply List.map_congr_left
  intro j _
  exact wd_nobit X n t j hb

/-- A word, bit by bit. -/
theorem wd_next (X w i k : Nat) (hk : k < w) : wd X (w * i + (k + 1)) w i = wd X (w * i + k) w i ||| (if X.testBit (w * i + k) then 1 else 0) * 2 ^ k := by
  apply Nat.eq_of_testBit_eq
  intro j
  rw [Nat.testBit_or, tb_wd, tb_wd]
  by_cases hb : X.testBit (w * i + k) = true
  · rw [if_pos hb, Nat.one_mul, Nat.testBit_two_pow]
    by_cases e : k = j
    · subst e; simp [hk, hb]
    · by_cases h : j < k
      · have a1 : w * i + j < w * i + (k + 1) := by omega
        have a2 : w * i + j < w * i + k := by omega
        simp [a1, a2, e]
      · have a1 : ¬ w * i + j < w * i + (k + 1) := by omega
        have a2 : ¬ w * i + j < w * i + k := by omega
        simp [a1, a2, e]
  · rw [if_neg hb, Nat.zero_mul, Nat.zero_testBit]
    by_cases e : j = k
    · subst e
      have : X.testBit (w * i + j) = false := by simpa using hb
      simp [this]
    · by_cases h : j < k
      · have a1 : w * i + j < w * i + (k + 1) := by omega
        have a2 : w * i + j < w * i + k := by omega
        simp [a1, a2]
      · have a1 : ¬ w * i + j < w * i + (k + 1) := by omega
        have a2 : ¬ w * i + j < w * i + k := by omega
        simp [a1, a2]

theorem wd_none (X w i : Nat) : wd X (w * i) w i = 0 := by
  apply Nat.eq_of_testBit_eq
  intro j
  rw [tb_wd, Nat.zero_testBit]
  have a2 : ¬ w * i + j < w * i := by omega
  simp [a2]

/-- A word that is whole does not know of bits behind it. -/
theorem wd_whole (X n t j : Nat) (h : t * (j + 1) ≤ n) : wd X n t j = X / 2 ^ (t * j) % 2 ^ t := by
  rw [Nat.mul_add, Nat.mul_one] at h
  apply Nat.eq_of_testBit_eq
  intro i
  rw [tb_wd, Nat.testBit_mod_two_pow, Nat.testBit_div_two_pow, Nat.add_comm i]
  by_cases hi : i < t
  · have : t * j + i < n := by omega
    simp [hi, this]
  · simp [hi]

theorem wd_strm (w : Nat) (l : List Nat) (j : Nat) (n : Nat) (h : w * (j + 1) ≤ n) : wd (strm w l) n w j = l.getD j 0 % 2 ^ w := by
  rw [Nat.mul_add, Nat.mul_one] at h
  apply Nat.eq_of_testBit_eq
  intro i
  rw [tb_wd, Nat.testBit_mod_two_pow]
  by_cases hi : i < w
  · rw [tb_strm w l j i hi]
    have : w * j + i < n := by omega
    simp [hi, this]
  · simp [hi]

/-- What is packed and read is the lowest bits. -/
theorem pk_back (w : Nat) (l : List Nat) : pk (strm w l) (w * l.length) w l.length = l.map (· % 2 ^ w) := by
  apply List.ext_getElem (by simp)
  intro i h1 h2
  rw [pk_length] at h1
  have e : (pk (strm w l) (w * l.length) w l.length)[i] = wd (strm w l) (w * l.length) w i := by simp [pk]
  rw [e, wd_strm w l i _ (Nat.mul_le_mul_left _ h1)]
  simp [List.getD, h1]

/-- The words of a number make the number's lowest bits. -/
theorem strm_pk (X n t : Nat) : ∀ cnt, strm t (pk X n t cnt) = X % 2 ^ n % 2 ^ (t * cnt) := by
  intro cnt
  apply Nat.eq_of_testBit_eq
  intro i
  rw [Nat.testBit_mod_two_pow, Nat.testBit_mod_two_pow]
  rcases Nat.eq_zero_or_pos t with rfl | ht
  · have h := strm_lt 0 (pk X n 0 cnt)
    rw [Nat.zero_mul, Nat.pow_zero] at h
    have : strm 0 (pk X n 0 cnt) = 0 := by omega
    rw [this]
    simp
  by_cases hi : i < t * cnt
  · have e1 := Nat.div_add_mod i t
    have l1 := Nat.mod_lt i ht
    have hq : i / t < cnt := (Nat.div_lt_iff_lt_mul ht).2 (by rw [Nat.mul_comm]; exact hi)
    have h := tb_strm t (pk X n t cnt) (i / t) (i % t) l1
    rw [e1, pk_getD _ _ _ _ _ hq, tb_wd, e1] at h
    rw [h]
    simp [l1, hi]
  · have h := strm_lt t (pk X n t cnt)
    rw [pk_length] at h
    rw [Nat.testBit_lt_two_pow (Nat.lt_of_lt_of_le h (Nat.pow_le_pow_right (by decide) (by omega)))]
    simp [hi]

/-- A row of words that are none too great is the words of its number. -/
theorem pk_strm (t : Nat) (l : List Nat) (hl : ∀ x ∈ l, x < 2 ^ t) (n : Nat) (h : t * l.length ≤ n) : pk (strm t l) n t l.length = l := by
  apply List.ext_getElem (by simp)
  intro i h1 h2
  have e : (pk (strm t l) n t l.length)[i] = wd (strm t l) n t i := by simp [pk]
  rw [e, wd_strm t l i _ (Nat.le_trans (Nat.mul_le_mul_left _ h2) h)]
  have : l.getD i 0 = l[i] := by simp [List.getD, h2]
  rw [this]
  exact Nat.mod_eq_of_lt (hl _ (List.getElem_mem h2))

end Go.Proofs.Ytlhdicbhanncnaa

namespace Go.Proofs.Ytlhdicbhanncnaa
open Go.RowKit
set_option linter.unusedVariables false

theorem part_eq (s u k : Nat) (hs : s ≤ 18446744073709551615) (hk : k ≤ 8) :
    bits BinOp.and IntKind.u64 ((s : Int) / 2 ^ u) (IntKind.u64.wrap (IntKind.u64.wrap (2 ^ k) - 1)) = ((s / 2 ^ u % 2 ^ k : Nat) : Int) := by
  have hp : 0 < 2 ^ k := Nat.two_pow_pos k
  have hp2 : 2 ^ k ≤ 2 ^ 8 := Nat.pow_le_pow_right (by decide) hk
  have w64 : ∀ n : Int, 0 ≤ n → n < 2 ^ 64 → IntKind.u64.wrap n = n := fun n h0 h1 => by
    have e : IntKind.u64.wrap n = n % 18446744073709551616 := by simp [IntKind.wrap, IntKind.bits, IntKind.signed]
    rw [e]
    exact Int.emod_eq_of_lt h0 (by simpa using h1)
  have e1 : ((2 : Int) ^ k) = ((2 ^ k : Nat) : Int) := by simp
  have e2 : IntKind.u64.wrap (2 ^ k) = (2 : Int) ^ k := by rw [e1]; exact w64 _ (by omega) (by omega)
  have e3 : IntKind.u64.wrap ((2 : Int) ^ k - 1) = (2 : Int) ^ k - 1 := by rw [e1]; exact w64 _ (by omega) (by omega)
  have e4 : (s : Int) / 2 ^ u = ((s / 2 ^ u : Nat) : Int) := by simp
  have hl : s / 2 ^ u ≤ s := Nat.div_le_self _ _
  rw [e2, e3, e4, bits_mask .u64 64 (by decide) w64 k (by omega) _ (Int.natCast_nonneg _) (by omega)]
  simp

theorem or8_eq (d p r : Nat) (hd : d ≤ 255) (hp : p * 2 ^ r < 256) :
    bits BinOp.or IntKind.u8 (d : Int) (IntKind.u64.wrap ((p : Int) * 2 ^ r) % 256) = ((d ||| p * 2 ^ r : Nat) : Int) := by
  have e1 : ((p : Int) * 2 ^ r) = ((p * 2 ^ r : Nat) : Int) := by simp
  rw [e1, wraps64 _ (by omega) (by omega)]
  have e2 : ((p * 2 ^ r : Nat) : Int) % 256 = ((p * 2 ^ r : Nat) : Int) := by omega
  rw [e2]
  exact (bits_nat .u8 8 (by decide) wraps_u8 d _ (by omega) (by omega)).2

theorem or64_eq (d p r : Nat) (hd : d ≤ 18446744073709551615) (hp : p * 2 ^ r < 2 ^ 64) :
    bits BinOp.or IntKind.u64 (d : Int) (IntKind.u64.wrap ((p : Int) * 2 ^ r)) = ((d ||| p * 2 ^ r : Nat) : Int) := by
  have e1 : ((p : Int) * 2 ^ r) = ((p * 2 ^ r : Nat) : Int) := by simp
  rw [e1, wraps64 _ (by omega) (by omega)]
  exact (bits_nat .u64 64 (by decide) wraps64 d _ (by omega) (by omega)).2

set_option maxRecDepth 100000 in
set_option maxHeartbeats 1000000 in
theorem move8_any (B g w cnt N : Nat) (sv : Value) (S : List Nat) (W wr : World) (hw : w ≤ 64) (hN : N = w * S.length) (hN2 : N < 1099511627776) (hcnt : cnt = (N + 7) / 8)
    (hS : Seen W sv (nv .u64 S)) (hSl : ∀ x ∈ S, x < 2 ^ 64) (hc : Chg [] W wr) (hg : W.heap.size ≤ g)
    (hd : wr.ownsRow B 5 1 (.slice (some ⟨g, 0, none⟩) cnt cnt) cnt (nv .u8 (pk (strm w S) 0 8 cnt))) :
    Calls Try.prog 58 #[.slice (some ⟨g, 0, none⟩) cnt cnt, .int .i64 8, sv, .int .i64 w, .int .i64 N] wr fun e w' => e = .returned (.tuple #[]) ∧ Chg [g] wr w' ∧ w'.ownsRow B 5 1 (.slice (some ⟨g, 0, none⟩) cnt cnt) cnt (nv .u8 (pk (strm w S) N 8 cnt)) := by
  obtain ⟨ao, cap, rfl, hc1, hc2⟩ := hS.shape
  rw [nv_length] at hc1 hS
  rw [nv_length]
  have HS := Lib.hid hS; have HD := Lib.hid hd; have HN := Lib.hid hN; have HCN := Lib.hid hcnt; have HC := Lib.hid hc; have HSL := Lib.hid hSl
  clear hS hd hN hcnt hc hSl
  go_enter Try.func58, Try.ntmps58
  go_wp2
  refine wp_scope_pre 0 (fun a' w' => ∃ (i : Nat) (u11 u12 u13 u14 u15 u16 u17 u18 u19 u20 u21 u22 u23 u24 u25 u26 u27 u28 u29 u30 u31 u32 u33 u34 u35 u36 u37 u38 u39 u40 u41 u42 u43 u44 u45 u46 u47 u48 u49 u50 u51 u52 u53 u54 u55 u56 u57 : Value), i ≤ N ∧ a' = { tmps := #[.slice (some ⟨g, 0, none⟩) cnt cnt, .int .i64 8, .slice ao S.length cap, .int .i64 w, .int .i64 N, undef, undef, undef, undef, undef, .int .i64 (i : Int), u11, u12, u13, u14, u15, u16, u17, u18, u19, u20, u21, u22, u23, u24, u25, u26, u27, u28, u29, u30, u31, u32, u33, u34, u35, u36, u37, u38, u39, u40, u41, u42, u43, u44, u45, u46, u47, u48, u49, u50, u51, u52, u53, u54, u55, u56, u57], defers := [] } ∧ Chg [g] wr w' ∧ w'.ownsRow B 5 1 (.slice (some ⟨g, 0, none⟩) cnt cnt) cnt (nv .u8 (pk (strm w S) i 8 cnt))) (fun a' _ => N - (intOf (a'.tmps.getD 10 undef)).toNat) rfl ?_ ?_
  · go_wp2
    exact ⟨0, _, _, _, _, _, _, _, _, _, _, _, _, _, _, _, _, _, _, _, _, _, _, _, _, _, _, _, _, _, _, _, _, _, _, _, _, _, _, _, _, _, _, _, _, _, _, _, Nat.zero_le _, rfl, Chg.refl _ _, HD.out⟩
  rintro a' wi ⟨i, u11, u12, u13, u14, u15, u16, u17, u18, u19, u20, u21, u22, u23, u24, u25, u26, u27, u28, u29, u30, u31, u32, u33, u34, u35, u36, u37, u38, u39, u40, u41, u42, u43, u44, u45, u46, u47, u48, u49, u50, u51, u52, u53, u54, u55, u56, u57, hin, rfl, hci, hdi⟩
  have HCI := Lib.hid hci; have HDI := Lib.hid hdi; clear hci hdi
  by_cases hlt : i = N
  · have hb : ((i : Int) == (N : Int)) = true := by simp [hlt]
    have hb2 := Lib.hid hlt
    clear hlt
    go_wp2
    simp only [Exit.jump]
    refine bodyPost_ret (results_none rfl _ _ _) rfl ?_
    exact ⟨rfl, HCI.out, by have := HDI.out; rw [hb2.out] at this; exact this⟩
  · have hb : ((i : Int) == (N : Int)) = false := by simp; omega
    have hilt : i < N := by omega
    clear hlt
    have hw0 : 0 < w := by
      have h := HN.out
      rcases Nat.eq_zero_or_pos w with h0 | h0
      · rw [h0, Nat.zero_mul] at h; omega
      · exact h0
    obtain ⟨r, hr⟩ : ∃ r, r = i % 8 := ⟨_, rfl⟩
    obtain ⟨u, hu⟩ : ∃ u, u = i % w := ⟨_, rfl⟩
    have hr8 : r < 8 := by omega
    have huw : u < w := by rw [hu]; exact Nat.mod_lt _ hw0
    obtain ⟨k, hk⟩ : ∃ k, k = min (8 - r) (w - u) := ⟨_, rfl⟩
    have hk1 : 1 ≤ k := by omega
    have hk2 : k ≤ 8 - r := by omega
    have hk3 : k ≤ w - u := by omega
    have m1 : (i : Int).tmod 8 = (r : Int) := by rw [hr]; rfl
    have m2 : (i : Int).tmod (w : Int) = (u : Int) := by rw [hu]; rfl
    have m3 : IntKind.i64.wrap (8 - (r : Int)) = 8 - (r : Int) := IntWalk.i64_in _ (by omega)
    have m4 : IntKind.i64.wrap ((w : Int) - (u : Int)) = (w : Int) - (u : Int) := IntWalk.i64_in _ (by omega)
    have hmin : ∀ wx : World, (Builtin.min_ #[3, 3] 3 #[.int .i64 (8 - (r : Int)), .int .i64 ((w : Int) - (u : Int))]).run Try.prog wx = .ok (.int .i64 (k : Int)) wx := by
      intro wx
      rw [run_min_int2]
      congr 2
      split <;> omega
    have HK := Lib.hid hk; have HR := Lib.hid hr; have HU := Lib.hid hu
    clear hk hr hu
    go_wp2
    go_quiet (fail)
    rename Nat => nqa
    clear hmin m3 m4
    go_wp2
    obtain ⟨q, hq⟩ : ∃ q, q = i / w := ⟨_, rfl⟩
    have m5 : (i : Int).tdiv (w : Int) = (q : Int) := by rw [hq]; rfl
    have hqS : q < S.length := by
      rw [hq]
      exact (Nat.div_lt_iff_lt_mul hw0).2 (by have h := HN.out; rw [Nat.mul_comm] at h; omega)
    have hkN : i + k ≤ N := by
      have h := HN.out
      have h2 : w * (q + 1) ≤ w * S.length := Nat.mul_le_mul_left _ hqS
      have h3 := Nat.div_add_mod i w
      rw [Nat.mul_add, Nat.mul_one, hq] at h2
      rw [← HU.out] at h3
      omega
    have hWi : Chg [] W wi := HC.out.trans (T := [g]) HCI.out (by simp; exact hg)
    obtain ⟨x, rfl, hcell⟩ := (HS.out.keep hWi).at rfl (by omega)
    have hx := hcell q hqS
    have hs64 : S.getD q 0 ≤ 18446744073709551615 := by
      have h := HSL.out (S.getD q 0) (by simp only [List.getD, List.getElem?_eq_getElem hqS]; exact List.getElem_mem hqS)
      omega
    clear hcell
    obtain ⟨s, hs⟩ : ∃ s, s = S.getD q 0 := ⟨_, rfl⟩
    rw [← hs] at hx hs64
    have HSQ := Lib.hid hs; have HQ := Lib.hid hq; clear hs hq
    have hqi : q ≤ i := by rw [HQ.out]; exact Nat.div_le_self _ _
    have m6 : IntKind.i64.wrap (q : Int) = (q : Int) := IntWalk.i64_in _ (by omega)
    have PE := Lib.hid (part_eq s u k hs64 (by omega))
    go_quiet (fail)
    rw [PE.out]
    have hW3 : ∃ w3, w3 = (wi.drewN nqa).drewN nq ∧ Chg [g] wr w3 ∧ w3.ownsRow B 5 1 (.slice (some ⟨g, 0, none⟩) cnt cnt) cnt (nv .u8 (pk (strm w S) i 8 cnt)) := ⟨_, rfl, (HCI.out.drewN _).drewN _, HDI.out⟩
    obtain ⟨w3, hw3, hc3, hd3⟩ := hW3
    rw [← hw3]
    have HC3 := Lib.hid hc3; have HD3 := Lib.hid hd3
    clear hw3 hc3 hd3 HCI HDI
    obtain ⟨p, hp⟩ : ∃ p, p = s / 2 ^ u % 2 ^ k := ⟨_, rfl⟩
    rw [← hp]
    have HP := Lib.hid hp; clear hp
    go_wp2
    clear m2 m5 m6 hx hqS hqi hs64 hWi huw
    obtain ⟨j, hj⟩ : ∃ j, j = i / 8 := ⟨_, rfl⟩
    have m5 : (i : Int).tdiv 8 = (j : Int) := by rw [hj]; rfl
    have hji : j ≤ i := by rw [hj]; exact Nat.div_le_self _ _
    have m6 : IntKind.i64.wrap (j : Int) = (j : Int) := IntWalk.i64_in _ (by omega)
    have hjc : j < cnt := by have h := HCN.out; omega
    have hy := own_cell HD3.out (by simp) j hjc
    have hfy := HD3.out.frozenAt j
    obtain ⟨d, hd⟩ : ∃ d, d = (pk (strm w S) i 8 cnt).getD j 0 := ⟨_, rfl⟩
    rw [← hd] at hy
    have hd8 : d ≤ 255 := by
      rw [hd, pk_getD _ _ _ _ _ hjc]
      have := wd_lt (strm w S) i 8 j
      omega
    have HJ := Lib.hid hj; have HDD := Lib.hid hd; clear hj hd
    go_still_tail 14, (by kernel_rfl)
    go_wp2
    have hpr : p * 2 ^ r < 2 ^ 8 := by
      rw [HP.out, HU.out, HR.out]
      exact wd_move_lt (strm w S) i 8 w k s (by decide) hw0 (by rw [← HR.out]; exact hk2) (by rw [← HU.out]; exact hk3)
    have hOR := or8_eq d p r hd8 (by omega)
    have hst := HD3.out.stored j (.int .u8 ((d ||| p * 2 ^ r : Nat) : Int))
    have hpk : pk (strm w S) (i + k) 8 cnt = (pk (strm w S) i 8 cnt).set j (d ||| p * 2 ^ r) := by
      rw [HDD.out, pk_getD _ _ _ _ _ hjc, HP.out, HJ.out, HU.out, HR.out]
      refine pk_move (strm w S) i 8 w k s cnt (by decide) hw0 (by rw [← HR.out]; exact hk2) (by rw [← HU.out]; exact hk3) fun m hm => ?_
      rw [tb_strm w S _ m hm, HSQ.out, HQ.out]
    rw [nv_set, ← hpk] at hst
    rw [hOR]
    have hik : (i : Int) + k = ((i + k : Nat) : Int) := by omega
    rw [hik]
    have hcc : Chg [g] wr (w3.setCell ⟨g, j, none⟩ (.int .u8 ((d ||| p * 2 ^ r : Nat) : Int))).drew := (HC3.out.setCell (by simp) _).drew
    go_step3
    exact ⟨rfl, ⟨i + k, _, _, _, _, _, _, _, _, _, _, _, _, _, _, _, _, _, _, _, _, _, _, _, _, _, _, _, _, _, _, _, _, _, _, _, _, _, _, _, _, _, _, _, _, _, _, _, hkN, rfl, hcc, hst.1⟩, by simp [intOf]; omega⟩

set_option maxRecDepth 100000 in
set_option maxHeartbeats 1000000 in
theorem move64_any (B g w cnt N : Nat) (sv : Value) (S : List Nat) (W wr : World) (hw : w ≤ 64) (hN : N = w * cnt) (hN2 : N < 1099511627776) (hcnt : N ≤ 8 * S.length)
    (hS : Seen W sv (nv .u8 S)) (hSl : ∀ x ∈ S, x < 2 ^ 8) (hc : Chg [] W wr) (hg : W.heap.size ≤ g)
    (hd : wr.ownsRow B 41 1 (.slice (some ⟨g, 0, none⟩) cnt cnt) cnt (nv .u64 (pk (strm 8 S) 0 w cnt))) :
    Calls Try.prog 61 #[.slice (some ⟨g, 0, none⟩) cnt cnt, .int .i64 w, sv, .int .i64 8, .int .i64 N] wr fun e w' => e = .returned (.tuple #[]) ∧ Chg [g] wr w' ∧ w'.ownsRow B 41 1 (.slice (some ⟨g, 0, none⟩) cnt cnt) cnt (nv .u64 (pk (strm 8 S) N w cnt)) := by
  obtain ⟨ao, cap, rfl, hc1, hc2⟩ := hS.shape
  rw [nv_length] at hc1 hS
  rw [nv_length]
  have HS := Lib.hid hS; have HD := Lib.hid hd; have HN := Lib.hid hN; have HCN := Lib.hid hcnt; have HC := Lib.hid hc; have HSL := Lib.hid hSl
  clear hS hd hN hcnt hc hSl
  go_enter Try.func61, Try.ntmps61
  go_wp2
  refine wp_scope_pre 0 (fun a' w' => ∃ (i : Nat) (u11 u12 u13 u14 u15 u16 u17 u18 u19 u20 u21 u22 u23 u24 u25 u26 u27 u28 u29 u30 u31 u32 u33 u34 u35 u36 u37 u38 u39 u40 u41 u42 u43 u44 u45 u46 u47 u48 u49 u50 u51 u52 u53 u54 u55 u56 u57 : Value), i ≤ N ∧ a' = { tmps := #[.slice (some ⟨g, 0, none⟩) cnt cnt, .int .i64 w, .slice ao S.length cap, .int .i64 8, .int .i64 N, undef, undef, undef, undef, undef, .int .i64 (i : Int), u11, u12, u13, u14, u15, u16, u17, u18, u19, u20, u21, u22, u23, u24, u25, u26, u27, u28, u29, u30, u31, u32, u33, u34, u35, u36, u37, u38, u39, u40, u41, u42, u43, u44, u45, u46, u47, u48, u49, u50, u51, u52, u53, u54, u55, u56, u57], defers := [] } ∧ Chg [g] wr w' ∧ w'.ownsRow B 41 1 (.slice (some ⟨g, 0, none⟩) cnt cnt) cnt (nv .u64 (pk (strm 8 S) i w cnt))) (fun a' _ => N - (intOf (a'.tmps.getD 10 undef)).toNat) rfl ?_ ?_
  · go_wp2
    exact ⟨0, _, _, _, _, _, _, _, _, _, _, _, _, _, _, _, _, _, _, _, _, _, _, _, _, _, _, _, _, _, _, _, _, _, _, _, _, _, _, _, _, _, _, _, _, _, _, _, Nat.zero_le _, rfl, Chg.refl _ _, HD.out⟩
  rintro a' wi ⟨i, u11, u12, u13, u14, u15, u16, u17, u18, u19, u20, u21, u22, u23, u24, u25, u26, u27, u28, u29, u30, u31, u32, u33, u34, u35, u36, u37, u38, u39, u40, u41, u42, u43, u44, u45, u46, u47, u48, u49, u50, u51, u52, u53, u54, u55, u56, u57, hin, rfl, hci, hdi⟩
  have HCI := Lib.hid hci; have HDI := Lib.hid hdi; clear hci hdi
  by_cases hlt : i = N
  · have hb : ((i : Int) == (N : Int)) = true := by simp [hlt]
    have hb2 := Lib.hid hlt
    clear hlt
    go_wp2
    simp only [Exit.jump]
    refine bodyPost_ret (results_none rfl _ _ _) rfl ?_
    exact ⟨rfl, HCI.out, by have := HDI.out; rw [hb2.out] at this; exact this⟩
  · have hb : ((i : Int) == (N : Int)) = false := by simp; omega
    have hilt : i < N := by omega
    clear hlt
    have hw0 : 0 < w := by
      have h := HN.out
      rcases Nat.eq_zero_or_pos w with h0 | h0
      · rw [h0, Nat.zero_mul] at h; omega
      · exact h0
    obtain ⟨r, hr⟩ : ∃ r, r = i % 8 := ⟨_, rfl⟩
    obtain ⟨u, hu⟩ : ∃ u, u = i % w := ⟨_, rfl⟩
    have hr8 : r < 8 := by omega
    have huw : u < w := by rw [hu]; exact Nat.mod_lt _ hw0
    obtain ⟨k, hk⟩ : ∃ k, k = min (8 - r) (w - u) := ⟨_, rfl⟩
    have hk1 : 1 ≤ k := by omega
    have hk2 : k ≤ 8 - r := by omega
    have hk3 : k ≤ w - u := by omega
    have m1 : (i : Int).tmod 8 = (r : Int) := by rw [hr]; rfl
    have m2 : (i : Int).tmod (w : Int) = (u : Int) := by rw [hu]; rfl
    have m3 : IntKind.i64.wrap (8 - (r : Int)) = 8 - (r : Int) := IntWalk.i64_in _ (by omega)
    have m4 : IntKind.i64.wrap ((w : Int) - (u : Int)) = (w : Int) - (u : Int) := IntWalk.i64_in _ (by omega)
    have hmin : ∀ wx : World, (Builtin.min_ #[3, 3] 3 #[.int .i64 ((w : Int) - (u : Int)), .int .i64 (8 - (r : Int))]).run Try.prog wx = .ok (.int .i64 (k : Int)) wx := by
      intro wx
      rw [run_min_int2]
      congr 2
      split <;> omega
    have HK := Lib.hid hk; have HR := Lib.hid hr; have HU := Lib.hid hu
    clear hk hr hu
    go_wp2
    go_quiet (fail)
    rename Nat => nqa
    clear hmin m3 m4
    go_wp2
    obtain ⟨q, hq⟩ : ∃ q, q = i / 8 := ⟨_, rfl⟩
    have m5 : (i : Int).tdiv 8 = (q : Int) := by rw [hq]; rfl
    have hqS : q < S.length := by have h := HCN.out; omega
    have hWi : Chg [] W wi := HC.out.trans (T := [g]) HCI.out (by simp; exact hg)
    obtain ⟨x, rfl, hcell⟩ := (HS.out.keep hWi).at rfl (by omega)
    have hx := hcell q hqS
    have hs64 : S.getD q 0 ≤ 255 := by
      have h := HSL.out (S.getD q 0) (by simp only [List.getD, List.getElem?_eq_getElem hqS]; exact List.getElem_mem hqS)
      omega
    clear hcell
    obtain ⟨s, hs⟩ : ∃ s, s = S.getD q 0 := ⟨_, rfl⟩
    rw [← hs] at hx hs64
    have HSQ := Lib.hid hs; have HQ := Lib.hid hq; clear hs hq
    have hqi : q ≤ i := by rw [HQ.out]; exact Nat.div_le_self _ _
    have m6 : IntKind.i64.wrap (q : Int) = (q : Int) := IntWalk.i64_in _ (by omega)
    have PE := Lib.hid (part_eq s r k (by omega) (by omega))
    go_quiet (fail)
    rw [PE.out]
    have hW3 : ∃ w3, w3 = (wi.drewN nqa).drewN nq ∧ Chg [g] wr w3 ∧ w3.ownsRow B 41 1 (.slice (some ⟨g, 0, none⟩) cnt cnt) cnt (nv .u64 (pk (strm 8 S) i w cnt)) := ⟨_, rfl, (HCI.out.drewN _).drewN _, HDI.out⟩
    obtain ⟨w3, hw3, hc3, hd3⟩ := hW3
    rw [← hw3]
    have HC3 := Lib.hid hc3; have HD3 := Lib.hid hd3
    clear hw3 hc3 hd3 HCI HDI
    obtain ⟨p, hp⟩ : ∃ p, p = s / 2 ^ r % 2 ^ k := ⟨_, rfl⟩
    rw [← hp]
    have HP := Lib.hid hp; clear hp
    go_wp2
    clear m1 m5 m6 hx hqS hqi hs64 hWi hr8
    obtain ⟨j, hj⟩ : ∃ j, j = i / w := ⟨_, rfl⟩
    have m5 : (i : Int).tdiv (w : Int) = (j : Int) := by rw [hj]; rfl
    have hji : j ≤ i := by rw [hj]; exact Nat.div_le_self _ _
    have m6 : IntKind.i64.wrap (j : Int) = (j : Int) := IntWalk.i64_in _ (by omega)
    have hjc : j < cnt := by
      rw [hj]
      exact (Nat.div_lt_iff_lt_mul hw0).2 (by have h := HN.out; rw [Nat.mul_comm] at h; omega)
    have hkN : i + k ≤ N := by
      have h := HN.out
      have h2 : w * (j + 1) ≤ w * cnt := Nat.mul_le_mul_left _ hjc
      have h3 := Nat.div_add_mod i w
      rw [Nat.mul_add, Nat.mul_one, hj] at h2
      rw [← HU.out] at h3
      omega
    have hy := own_cell HD3.out (by simp) j hjc
    have hfy := HD3.out.frozenAt j
    obtain ⟨d, hd⟩ : ∃ d, d = (pk (strm 8 S) i w cnt).getD j 0 := ⟨_, rfl⟩
    rw [← hd] at hy
    have hpw : 2 ^ w ≤ 2 ^ 64 := Nat.pow_le_pow_right (by decide) hw
    have hd8 : d ≤ 18446744073709551615 := by
      rw [hd, pk_getD _ _ _ _ _ hjc]
      have := wd_lt (strm 8 S) i w j
      omega
    clear hpw
    have HJ := Lib.hid hj; have HDD := Lib.hid hd; clear hj hd
    have hwz : ¬ w = 0 := by omega
    have hwz2 : ((w : Int) == 0) = false := by simp; omega
    go_still_tail 13, (by kernel_rfl)
    go_wp2
    have hpr : p * 2 ^ u < 2 ^ w := by
      rw [HP.out, HU.out, HR.out]
      exact wd_move_lt (strm 8 S) i w 8 k s hw0 (by decide) (by rw [← HU.out]; exact hk3) (by rw [← HR.out]; exact hk2)
    have hpw : 2 ^ w ≤ 2 ^ 64 := Nat.pow_le_pow_right (by decide) hw
    have hOR := or64_eq d p u hd8 (by omega)
    have hst := HD3.out.stored j (.int .u64 ((d ||| p * 2 ^ u : Nat) : Int))
    have hpk : pk (strm 8 S) (i + k) w cnt = (pk (strm 8 S) i w cnt).set j (d ||| p * 2 ^ u) := by
      rw [HDD.out, pk_getD _ _ _ _ _ hjc, HP.out, HJ.out, HU.out, HR.out]
      refine pk_move (strm 8 S) i w 8 k s cnt hw0 (by decide) (by rw [← HU.out]; exact hk3) (by rw [← HR.out]; exact hk2) fun m hm => ?_
      rw [tb_strm 8 S _ m hm, HSQ.out, HQ.out]
    rw [nv_set, ← hpk] at hst
    rw [hOR]
    have hik : (i : Int) + k = ((i + k : Nat) : Int) := by omega
    rw [hik]
    have hcc : Chg [g] wr (w3.setCell ⟨g, j, none⟩ (.int .u64 ((d ||| p * 2 ^ u : Nat) : Int))).drew := (HC3.out.setCell (by simp) _).drew
    go_step3
    exact ⟨rfl, ⟨i + k, _, _, _, _, _, _, _, _, _, _, _, _, _, _, _, _, _, _, _, _, _, _, _, _, _, _, _, _, _, _, _, _, _, _, _, _, _, _, _, _, _, _, _, _, _, _, _, hkN, rfl, hcc, hst.1⟩, by simp [intOf]; omega⟩

end Go.Proofs.Ytlhdicbhanncnaa

namespace Go.Proofs.Ytlhdicbhanncnaa
open Go.RowKit
set_option linter.unusedVariables false

theorem info_u64 : ∃ i, Try.prog.info? 41 = some i ∧ i.zero = some (.int .u64 0) ∧ i.size = 1 ∧ i.bytes = 8 :=
  info_parts (show (Try.prog.info? 41).map (fun i => (i.zero, i.size, i.bytes)) = some (some (.int .u64 0), 1, 8) by kernel_rfl)

set_option maxHeartbeats 400000 in
theorem bsize_any (n : Nat) (w : World) (hn : n < 1099511627776) :
    Calls Try.prog 57 #[.int .i64 n] w fun e w' => e = .returned (.int .i64 (((n + 7) / 8 : Nat) : Int)) ∧ w = w' := by
  go_enter Try.func57, Try.ntmps57
  go_wp2
  go_ret
  exact ⟨ret_int (by omega), rfl⟩

set_option maxHeartbeats 400000 in
theorem between_yes (n m : Int) (w : World) (h0 : 0 ≤ n) (h1 : n ≤ m) :
    Calls Try.prog 56 #[.int .i64 n, .int .i64 m] w fun e w' => e = .returned (.bool true) ∧ w = w' := by
  go_enter Try.func56, Try.ntmps56
  go_wp2
  go_ret
  exact ⟨rfl, rfl⟩

set_option maxHeartbeats 400000 in
theorem between_no (n m : Int) (w : World) (h0 : n < 0 ∨ m < n) :
    Calls Try.prog 56 #[.int .i64 n, .int .i64 m] w fun e w' => e = .returned (.bool false) ∧ w = w' := by
  by_cases h : 0 ≤ n
  · have h1 : m < n := by omega
    have hd : decide (n ≤ m) = false := by simp; omega
    clear h0
    go_enter Try.func56, Try.ntmps56
    go_wp2
    go_ret
    exact ⟨rfl, rfl⟩
  · have h1 : n < 0 := by omega
    clear h0 h
    go_enter Try.func56, Try.ntmps56
    go_wp2
    go_ret
    exact ⟨rfl, rfl⟩

/-- What packing makes. -/
def packed (w : Nat) (S : List Nat) : List Nat := pk (strm w S) (w * S.length) 8 ((w * S.length + 7) / 8)
@[simp] theorem packed_length (w : Nat) (S : List Nat) : (packed w S).length = (w * S.length + 7) / 8 := by simp [packed]

theorem cells_zero64 (n : Nat) : (madeCells #[Value.int .u64 0] n).toList = nv .u64 (List.replicate n 0) := by
  rw [toList_madeCells_one]; simp [nv]

set_option maxHeartbeats 400000 in
theorem pack_no (sv : Value) (width : Int) (w : World) (h : width < 0 ∨ 64 < width) :
    Calls Try.prog 43 #[sv, .int .i64 width] w fun e w' => e = .returned (.slice none 0 0) ∧ w = w' := by
  go_enter Try.func43, Try.ntmps43
  go_wp2_with fail
  refine (between_no _ _ _ h).mono ?_
  rintro e w1 ⟨rfl, rfl⟩
  go_wp2
  go_ret
  exact ⟨rfl, rfl⟩

set_option maxHeartbeats 1000000 in
theorem pack_yes (sv : Value) (S : List Nat) (width : Nat) (w : World) (hw : width ≤ 64) (hl : S.length ≤ 1000000) (hS : Seen w sv (nv .u64 S)) (hSl : ∀ x ∈ S, x < 2 ^ 64) :
    Calls Try.prog 43 #[sv, .int .i64 width] w fun e w' => ∃ g, e = .returned (.slice (some ⟨g, 0, none⟩) (packed width S).length (packed width S).length) ∧ Made 5 .u8 (packed width S) w (.slice (some ⟨g, 0, none⟩) (packed width S).length (packed width S).length) w' := by
  obtain ⟨i0, hi, hz0, hz1, hz2⟩ := info_u8
  obtain ⟨ao, cap, rfl, hc1, hc2⟩ := hS.shape
  rw [nv_length] at hc1 hS
  rw [nv_length]
  obtain ⟨N, hN⟩ : ∃ N, N = width * S.length := ⟨_, rfl⟩
  have hN2 : N < 1099511627776 := by
    have : width * S.length ≤ 64 * 1000000 := Nat.mul_le_mul hw hl
    omega
  have hNi : (S.length : Int) * (width : Int) = (N : Int) := by rw [hN]; push_cast; exact Int.mul_comm _ _
  have hNw : IntKind.i64.wrap (N : Int) = (N : Int) := IntWalk.i64_in _ (by omega)
  obtain ⟨cnt, hcnt⟩ : ∃ c, c = (N + 7) / 8 := ⟨_, rfl⟩
  have hcN : cnt ≤ N + 7 := by omega
  have HS := Lib.hid hS; have HSL := Lib.hid hSl; have HN := Lib.hid hN; have HCN := Lib.hid hcnt
  have hcm : cnt ≤ maxLen := by unfold maxLen; omega
  clear hS hSl hN hcnt
  go_enter Try.func43, Try.ntmps43
  go_wp2_with fail
  refine (between_yes _ _ _ (by omega) (by omega)).mono ?_
  rintro e w1 ⟨rfl, rfl⟩
  go_wp2_with fail
  refine (bsize_any N _ hN2).mono ?_
  rintro e w1 ⟨rfl, rfl⟩
  rw [← HCN.out]
  go_wp2_with (at_make; refine wpList_make_full _ rfl _ _ 23 rfl w.heap.size 5 i0 (.int .u8 0) 1 Try.underlying23 hi hz0 hz1 .i64 .i64 _ _ cnt rfl rfl rfl rfl ?c1 ?c2 (Nat.le_refl _) ?_)
  case c1 => rw [hz2]; omega
  case c2 => exact hcm
  intro w1 hown1 hg1
  rw [cells_zero8, ← pk_zero (strm width S) 8 cnt] at hown1
  have HC1 := Lib.hid ((Chg.refl [] w).grown hg1 (by simp))
  have HO1 := Lib.hid hown1
  clear hown1 hg1
  go_wp2_with fail
  refine (move8_any w.heap.size w.heap.size width cnt N _ S w _ hw HN.out hN2 HCN.out HS.out HSL.out HC1.out (Nat.le_refl _) HO1.out).mono ?_
  rintro e w2 ⟨rfl, g1, g2⟩
  have HC2 := Lib.hid (HC1.out.trans (T := [w.heap.size]) g1 (by simp)); have HO2 := Lib.hid g2
  clear g1 g2
  go_wp2
  go_ret
  have e1 : packed width S = pk (strm width S) N 8 cnt := by unfold packed; rw [← HN.out, ← HCN.out]
  have e2 : (pk (strm width S) N 8 cnt).length = cnt := pk_length _ _ _ _
  refine ⟨w.heap.size, by rw [e1, e2]; rfl, ?_⟩
  rw [e1]
  refine ⟨HC2.out, ?_⟩
  rw [e2]
  exact HO2.out


/-- What fault tells of bytes b and n bits. -/
def faultOf (b : List Nat) (n : Nat) : Int := if b.length < (n + 7) / 8 then 8 else if (n + 7) / 8 < b.length then 9 else if strm 8 b / 2 ^ n = 0 then 0 else 10

theorem last_bits (b : List Nat) (n : Nat) (hl : b.length = (n + 7) / 8) (hb : ∀ x ∈ b, x < 2 ^ 8) (hn : 0 < n % 8) : (b.getD (b.length - 1) 0 / 2 ^ (n % 8) = 0) ↔ strm 8 b / 2 ^ n = 0 := by
  have hlen : 0 < b.length := by omega
  have e1 : n = 8 * (b.length - 1) + n % 8 := by omega
  constructor
  · intro h
    apply Nat.eq_of_testBit_eq
    intro i
    rw [Nat.testBit_div_two_pow, Nat.zero_testBit]
    by_cases hi : i + n < 8 * b.length
    · have e2 : i + n = 8 * (b.length - 1) + (i + n % 8) := by omega
      rw [e2, tb_strm 8 b _ _ (by omega)]
      have : (b.getD (b.length - 1) 0 / 2 ^ (n % 8)).testBit i = false := by rw [h]; simp
      rwa [Nat.testBit_div_two_pow] at this
    · exact Nat.testBit_lt_two_pow (Nat.lt_of_lt_of_le (strm_lt 8 b) (Nat.pow_le_pow_right (by decide) (by omega)))
  · intro h
    apply Nat.eq_of_testBit_eq
    intro i
    rw [Nat.testBit_div_two_pow, Nat.zero_testBit]
    by_cases hi : i + n % 8 < 8
    · have : (strm 8 b / 2 ^ n).testBit i = false := by rw [h]; simp
      rw [Nat.testBit_div_two_pow] at this
      have e2 : i + n = 8 * (b.length - 1) + (i + n % 8) := by omega
      rwa [e2, tb_strm 8 b _ _ hi] at this
    · have h1 : b.getD (b.length - 1) 0 < 2 ^ 8 := by
        have : b.length - 1 < b.length := by omega
        simp only [List.getD, List.getElem?_eq_getElem this]
        exact hb _ (List.getElem_mem this)
      exact Nat.testBit_lt_two_pow (Nat.lt_of_lt_of_le h1 (Nat.pow_le_pow_right (by decide) (by omega)))

theorem whole_bits (b : List Nat) (n : Nat) (hl : b.length = (n + 7) / 8) (hn : n % 8 = 0) : strm 8 b / 2 ^ n = 0 := by
  have h := strm_lt 8 b
  have : 8 * b.length = n := by omega
  rw [this] at h
  exact Nat.div_eq_of_lt h

set_option maxHeartbeats 400000 in
theorem bfault_any (bv : Value) (b : List Nat) (n : Nat) (w : World) (hn : n < 1099511627776) (hS : Seen w bv (nv .u8 b)) (hb : ∀ x ∈ b, x < 2 ^ 8) :
    Calls Try.prog 60 #[bv, .int .i64 n] w fun e w' => e = .returned (.int .i64 (faultOf b n)) ∧ w = w' := by
  obtain ⟨ao, cap, rfl, hc1, hc2⟩ := hS.shape
  rw [nv_length] at hc1 hS
  rw [nv_length]
  have HS := Lib.hid hS; have HB := Lib.hid hb; clear hS hb
  obtain ⟨c, hc⟩ : ∃ c, c = (n + 7) / 8 := ⟨_, rfl⟩
  have HC := Lib.hid hc
  unfold faultOf
  by_cases h1 : b.length < c
  · rw [← hc, if_pos h1]
    clear hc
    have hd : decide (b.length < c) = true := by simpa using h1
    go_enter Try.func60, Try.ntmps60
    go_wp2_with fail
    refine (bsize_any n _ hn).mono ?_
    rintro e w1 ⟨rfl, rfl⟩
    rw [← HC.out]
    go_wp2
    go_ret
    exact ⟨rfl, rfl⟩
  · rw [← hc, if_neg h1]
    have hd : decide (b.length < c) = false := by simpa using h1
    by_cases h2 : c < b.length
    · rw [if_pos h2]
      clear hc
      have hd2 : decide (c < b.length) = true := by simpa using h2
      go_enter Try.func60, Try.ntmps60
      go_wp2_with fail
      refine (bsize_any n _ hn).mono ?_
      rintro e w1 ⟨rfl, rfl⟩
      rw [← HC.out]
      go_wp2_with fail
      refine (bsize_any n _ hn).mono ?_
      rintro e w1 ⟨rfl, rfl⟩
      rw [← HC.out]
      go_wp2
      go_ret
      exact ⟨rfl, rfl⟩
    · rw [if_neg h2]
      have hd2 : decide (c < b.length) = false := by simpa using h2
      have hbl := Lib.hid (show b.length = (n + 7) / 8 by omega)
      by_cases h3 : n % 8 = 0
      · rw [if_pos (whole_bits b n hbl.out h3)]
        have hd3 : decide (0 < (n : Int) % 8) = false := by simp; omega
        clear hc h1 h2 h3
        go_enter Try.func60, Try.ntmps60
        go_wp2_with fail
        refine (bsize_any n _ hn).mono ?_
        rintro e w1 ⟨rfl, rfl⟩
        rw [← HC.out]
        go_wp2_with fail
        refine (bsize_any n _ hn).mono ?_
        rintro e w1 ⟨rfl, rfl⟩
        rw [← HC.out]
        go_wp2
        go_ret
        exact ⟨rfl, rfl⟩
      · have hd3 : decide (0 < (n : Int) % 8) = true := by simp; omega
        have hlen : 0 < b.length := by omega
        obtain ⟨x, rfl, hx⟩ := HS.out.at rfl hlen
        have hx1 := hx (b.length - 1) (by omega)
        obtain ⟨r, hr⟩ : ∃ r, r = n % 8 := ⟨_, rfl⟩
        have hrr : (n : Int) % 8 = (r : Int) := by omega
        obtain ⟨s, hs⟩ : ∃ s, s = b.getD (b.length - 1) 0 := ⟨_, rfl⟩
        have hs8 : s < 256 := by
          have h1 : b.getD (b.length - 1) 0 < 2 ^ 8 := by
            have : b.length - 1 < b.length := by omega
            simp only [List.getD, List.getElem?_eq_getElem this]
            exact HB.out _ (List.getElem_mem this)
          omega
        have hlb := Lib.hid (last_bits b n hbl.out HB.out (by omega))
        rw [← hs] at hx1
        have hbm : (b.length : Int) - 1 = ((b.length - 1 : Nat) : Int) := by omega
        have hr8 : r < 8 := by omega
        have hr0 : 0 < r := by omega
        have hww : wrap64 ((b.length - 1 : Nat) : Int) = ((b.length - 1 : Nat) : Int) := IntWalk.wrap64_in _ (by unfold maxLen at hc2; omega)
        by_cases h4 : s / 2 ^ r = 0
        · rw [if_pos (hlb.out.1 (by rw [← hs, ← hr]; exact h4))]
          have hd4 : decide (0 < (s : Int) / 2 ^ r) = false := by
            have : (s : Int) / 2 ^ r = ((s / 2 ^ r : Nat) : Int) := by simp
            rw [this, h4]; rfl
          clear hc h1 h2 h3 hx hs hr h4
          go_enter Try.func60, Try.ntmps60
          go_wp2_with fail
          refine (bsize_any n _ hn).mono ?_
          rintro e w1 ⟨rfl, rfl⟩
          rw [← HC.out]
          go_wp2_with fail
          refine (bsize_any n _ hn).mono ?_
          rintro e w1 ⟨rfl, rfl⟩
          rw [← HC.out]
          go_wp2
          go_ret
          exact ⟨rfl, rfl⟩
        · rw [if_neg (fun h => h4 (by have := hlb.out.2 h; rwa [← hs, ← hr] at this))]
          have hd4 : decide (0 < (s : Int) / 2 ^ r) = true := by
            have : (s : Int) / 2 ^ r = ((s / 2 ^ r : Nat) : Int) := by simp
            have h5 : 0 < s / 2 ^ r := Nat.pos_of_ne_zero h4
            exact decide_eq_true (by rw [this]; exact_mod_cast h5)
          clear hc h1 h2 h3 hx hs hr h4
          go_enter Try.func60, Try.ntmps60
          go_wp2_with fail
          refine (bsize_any n _ hn).mono ?_
          rintro e w1 ⟨rfl, rfl⟩
          rw [← HC.out]
          go_wp2_with fail
          refine (bsize_any n _ hn).mono ?_
          rintro e w1 ⟨rfl, rfl⟩
          rw [← HC.out]
          go_wp2
          go_ret
          exact ⟨rfl, rfl⟩


theorem unpack_args (bv : Value) (n width : Int) (w : World) (h : n < 0 ∨ 4000 < n ∨ width < 0 ∨ 64 < width) :
    Calls Try.prog 46 #[bv, .int .i64 n, .int .i64 width] w fun e w' => e = .returned (.tuple #[.slice none 0 0, .int .i64 1]) ∧ w = w' := by
  by_cases h1 : n < 0 ∨ 4000 < n
  · clear h
    go_enter Try.func46, Try.ntmps46
    go_wp2_with fail
    refine (between_no _ _ _ h1).mono ?_
    rintro e w1 ⟨rfl, rfl⟩
    go_wp2
    go_ret2
    exact ⟨rfl, rfl⟩
  · have h2 : width < 0 ∨ 64 < width := by omega
    have h3 : 0 ≤ n := by omega
    have h4 : n ≤ 4000 := by omega
    clear h h1
    go_enter Try.func46, Try.ntmps46
    go_wp2_with fail
    refine (between_yes _ _ _ h3 h4).mono ?_
    rintro e w1 ⟨rfl, rfl⟩
    go_wp2_with fail
    refine (between_no _ _ _ h2).mono ?_
    rintro e w1 ⟨rfl, rfl⟩
    go_wp2
    go_ret2
    exact ⟨rfl, rfl⟩

/-- What Unpack reads. -/
def unpacked (b : List Nat) (n w : Nat) : List Nat := pk (strm 8 b) (w * n) w n
@[simp] theorem unpacked_length (b : List Nat) (n w : Nat) : (unpacked b n w).length = n := by simp [unpacked]

set_option maxHeartbeats 1000000 in
theorem unpack_no (bv : Value) (b : List Nat) (n width : Nat) (w : World) (hn : n ≤ 4000) (hw : width ≤ 64) (hS : Seen w bv (nv .u8 b)) (hb : ∀ x ∈ b, x < 2 ^ 8) (hf : faultOf b (width * n) ≠ 0) :
    Calls Try.prog 46 #[bv, .int .i64 n, .int .i64 width] w fun e w' => e = .returned (.tuple #[.slice none 0 0, .int .i64 (faultOf b (width * n))]) ∧ w = w' := by
  obtain ⟨N, hN⟩ : ∃ N, N = width * n := ⟨_, rfl⟩
  have hN2 : N < 1099511627776 := by
    have : width * n ≤ 64 * 4000 := Nat.mul_le_mul hw hn
    omega
  have hNi : (n : Int) * (width : Int) = (N : Int) := by rw [hN]; push_cast; exact Int.mul_comm _ _
  rw [← hN] at hf ⊢
  obtain ⟨ao, cap, rfl, hc1, hc2⟩ := hS.shape
  rw [nv_length] at hc1 hS
  rw [nv_length]
  have HS := Lib.hid hS; have HB := Lib.hid hb; clear hS hb hN
  obtain ⟨f, hfe⟩ : ∃ f, f = faultOf b N := ⟨_, rfl⟩
  rw [← hfe] at hf ⊢
  have HF := Lib.hid hfe; clear hfe
  have hff : (f == 0) = false := by simpa using hf
  have hff2 : (f != 0) = true := by simpa using hf
  clear hf
  go_enter Try.func46, Try.ntmps46
  go_wp2_with fail
  refine (between_yes _ _ _ (by omega) (by omega)).mono ?_
  rintro e w1 ⟨rfl, rfl⟩
  go_wp2_with fail
  refine (between_yes _ _ _ (by omega) (by omega)).mono ?_
  rintro e w1 ⟨rfl, rfl⟩
  go_wp2_with fail
  refine (bfault_any _ b N _ hN2 HS.out HB.out).mono ?_
  rintro e w1 ⟨rfl, rfl⟩
  rw [← HF.out]
  go_wp2
  go_ret2
  exact ⟨rfl, rfl⟩

set_option maxHeartbeats 1000000 in
theorem unpack_yes (bv : Value) (b : List Nat) (n width : Nat) (w : World) (hn : n ≤ 4000) (hw : width ≤ 64) (hS : Seen w bv (nv .u8 b)) (hb : ∀ x ∈ b, x < 2 ^ 8) (hf : faultOf b (width * n) = 0) :
    Calls Try.prog 46 #[bv, .int .i64 n, .int .i64 width] w fun e w' => ∃ g, e = .returned (.tuple #[.slice (some ⟨g, 0, none⟩) n n, .int .i64 0]) ∧ Made 41 .u64 (unpacked b n width) w (.slice (some ⟨g, 0, none⟩) n n) w' := by
  obtain ⟨i0, hi, hz0, hz1, hz2⟩ := info_u64
  obtain ⟨N, hN⟩ : ∃ N, N = width * n := ⟨_, rfl⟩
  have hN2 : N < 1099511627776 := by
    have : width * n ≤ 64 * 4000 := Nat.mul_le_mul hw hn
    omega
  have hNi : (n : Int) * (width : Int) = (N : Int) := by rw [hN]; push_cast; exact Int.mul_comm _ _
  have hNb : N ≤ 8 * b.length := by
    rw [← hN] at hf
    unfold faultOf at hf
    by_cases h1 : b.length < (N + 7) / 8
    · rw [if_pos h1] at hf; omega
    · omega
  rw [← hN] at hf
  obtain ⟨ao, cap, rfl, hc1, hc2⟩ := hS.shape
  rw [nv_length] at hc1 hS
  rw [nv_length]
  have HS := Lib.hid hS; have HB := Lib.hid hb; have HN := Lib.hid hN; clear hS hb hN
  have HF := Lib.hid hf; clear hf
  have hcm : n ≤ maxLen := by unfold maxLen; omega
  go_enter Try.func46, Try.ntmps46
  go_wp2_with fail
  refine (between_yes _ _ _ (by omega) (by omega)).mono ?_
  rintro e w1 ⟨rfl, rfl⟩
  go_wp2_with fail
  refine (between_yes _ _ _ (by omega) (by omega)).mono ?_
  rintro e w1 ⟨rfl, rfl⟩
  go_wp2_with fail
  refine (bfault_any _ b N _ hN2 HS.out HB.out).mono ?_
  rintro e w1 ⟨rfl, rfl⟩
  rw [HF.out]
  go_wp2_with (at_make; refine wpList_make_full _ rfl _ _ 42 rfl w.heap.size 41 i0 (.int .u64 0) 1 Try.underlying42 hi hz0 hz1 .i64 .i64 _ _ n rfl rfl rfl rfl ?c1 ?c2 (Nat.le_refl _) ?_)
  case c1 => rw [hz2]; omega
  case c2 => exact hcm
  intro w1 hown1 hg1
  rw [cells_zero64, ← pk_zero (strm 8 b) width n] at hown1
  have HC1 := Lib.hid ((Chg.refl [] w).grown hg1 (by simp))
  have HO1 := Lib.hid hown1
  clear hown1 hg1
  go_wp2_with fail
  refine (move64_any w.heap.size w.heap.size width n N _ b w _ hw HN.out hN2 hNb HS.out HB.out HC1.out (Nat.le_refl _) HO1.out).mono ?_
  rintro e w2 ⟨rfl, g1, g2⟩
  have HC2 := Lib.hid (HC1.out.trans (T := [w.heap.size]) g1 (by simp)); have HO2 := Lib.hid g2
  clear g1 g2
  go_wp2
  go_ret2
  have e1 : unpacked b n width = pk (strm 8 b) N width n := by unfold unpacked; rw [← HN.out]
  refine ⟨w.heap.size, rfl, HC2.out, ?_⟩
  rw [unpacked_length, e1]
  exact HO2.out

end Go.Proofs.Ytlhdicbhanncnaa

namespace Go.Proofs.Ytlhdicbhanncnaa
open Go.RowKit
set_option linter.unusedVariables false

set_option maxHeartbeats 400000 in
theorem brsize_any (n width : Nat) (N : Nat) (w : World) (hN : (n : Int) * (width : Int) = (N : Int)) (hn : N < 1099511627776) :
    Calls Try.prog 33 #[.int .i64 n, .int .i64 width] w fun e w' => e = .returned (.int .i64 (((N + 7) / 8 : Nat) : Int)) ∧ w = w' := by
  have hNw : IntKind.i64.wrap (N : Int) = (N : Int) := IntWalk.i64_in _ (by omega)
  go_enter Try.func33, Try.ntmps33
  go_wp2
  go_ret
  exact ⟨ret_int (by omega), rfl⟩

theorem rpack_no (sv : Value) (width : Int) (w : World) (h : width < 0 ∨ 64 < width) :
    Calls Try.prog 16 #[sv, .int .i64 width] w fun e w' => e = .returned (.slice none 0 0) ∧ w = w' := by
  by_cases h1 : width < 0
  · clear h
    go_enter Try.func16, Try.ntmps16
    go_wp2
    go_ret
    exact ⟨rfl, rfl⟩
  · have h2 : 64 < width := by omega
    clear h
    go_enter Try.func16, Try.ntmps16
    go_wp2
    go_ret
    exact ⟨rfl, rfl⟩

theorem orb_eq (d r : Nat) (hd : d ≤ 255) (hr : r < 8) :
    bits BinOp.or IntKind.u8 (d : Int) (2 ^ r % 256) = ((d ||| 2 ^ r : Nat) : Int) := by
  have hp2 : 2 ^ r ≤ 2 ^ 7 := Nat.pow_le_pow_right (by decide) (by omega)
  have e1 : ((2 : Int) ^ r) = ((2 ^ r : Nat) : Int) := by simp
  rw [e1]
  generalize 2 ^ r = m at hp2
  rw [show (m : Int) % 256 = m by omega]
  exact (bits_nat .u8 8 (by decide) wraps_u8 d _ (by omega) (by omega)).2

theorem bit64 (s k : Nat) (hs : s ≤ 18446744073709551615) : bits BinOp.and IntKind.u64 ((s : Int) / 2 ^ k) 1 = if s.testBit k then 1 else 0 := by
  have e4 : (s : Int) / 2 ^ k = ((s / 2 ^ k : Nat) : Int) := by simp
  have hl : s / 2 ^ k ≤ s := Nat.div_le_self _ _
  have h := bits_mask .u64 64 (by decide) wraps64 1 (by omega) ((s / 2 ^ k : Nat) : Int) (Int.natCast_nonneg _) (by omega)
  rw [e4]
  rw [show ((2 : Int) ^ 1 - 1) = 1 from rfl] at h
  rw [h, Nat.testBit_eq_decide_div_mod_eq]
  by_cases c : s / 2 ^ k % 2 = 1 <;> simp [c] <;> omega

theorem bit8 (s k : Nat) (hs : s ≤ 255) : bits BinOp.and IntKind.u8 ((s : Int) / 2 ^ k) 1 = if s.testBit k then 1 else 0 := by
  have e4 : (s : Int) / 2 ^ k = ((s / 2 ^ k : Nat) : Int) := by simp
  have hl : s / 2 ^ k ≤ s := Nat.div_le_self _ _
  have h := bits_mask .u8 8 (by decide) wraps_u8 1 (by omega) ((s / 2 ^ k : Nat) : Int) (Int.natCast_nonneg _) (by omega)
  rw [e4]
  rw [show ((2 : Int) ^ 1 - 1) = 1 from rfl] at h
  rw [h, Nat.testBit_eq_decide_div_mod_eq]
  by_cases c : s / 2 ^ k % 2 = 1 <;> simp [c] <;> omega

set_option maxRecDepth 100000 in
set_option maxHeartbeats 1000000 in
theorem rpack_yes (sv : Value) (S : List Nat) (width : Nat) (w : World) (hw : width ≤ 64) (hl : S.length ≤ 1000000) (hS : Seen w sv (nv .u64 S)) (hSl : ∀ x ∈ S, x < 2 ^ 64) :
    Calls Try.prog 16 #[sv, .int .i64 width] w fun e w' => ∃ g, e = .returned (.slice (some ⟨g, 0, none⟩) (packed width S).length (packed width S).length) ∧ Made 5 .u8 (packed width S) w (.slice (some ⟨g, 0, none⟩) (packed width S).length (packed width S).length) w' := by
  obtain ⟨i0, hi, hz0, hz1, hz2⟩ := info_u8
  obtain ⟨ao, cap, rfl, hc1, hc2⟩ := hS.shape
  rw [nv_length] at hc1 hS
  rw [nv_length]
  obtain ⟨N, hN⟩ : ∃ N, N = width * S.length := ⟨_, rfl⟩
  have hN2 : N < 1099511627776 := by
    have : width * S.length ≤ 64 * 1000000 := Nat.mul_le_mul hw hl
    omega
  have hNi : (S.length : Int) * (width : Int) = (N : Int) := by rw [hN]; push_cast; exact Int.mul_comm _ _
  have HNI := Lib.hid hNi; clear hNi
  obtain ⟨cnt, hcnt⟩ : ∃ c, c = (N + 7) / 8 := ⟨_, rfl⟩
  have hcN : cnt ≤ N + 7 := by omega
  have HS := Lib.hid hS; have HSL := Lib.hid hSl; have HN := Lib.hid hN; have HCN := Lib.hid hcnt
  have hcm : cnt ≤ maxLen := by unfold maxLen; omega
  clear hS hSl hN hcnt
  go_enter Try.func16, Try.ntmps16
  go_wp2_with fail
  refine (brsize_any _ _ N _ HNI.out hN2).mono ?_
  rintro e w1 ⟨rfl, rfl⟩
  rw [← HCN.out]
  go_wp2_with (at_make; refine wpList_make_full _ rfl _ _ 23 rfl w.heap.size 5 i0 (.int .u8 0) 1 Try.underlying23 hi hz0 hz1 .i64 .i64 _ _ cnt rfl rfl rfl rfl ?c1 ?c2 (Nat.le_refl _) ?_)
  case c1 => rw [hz2]; omega
  case c2 => exact hcm
  intro w1 hown1 hg1
  rw [cells_zero8, ← pk_zero (strm width S) 8 cnt] at hown1
  have HC1 := Lib.hid ((Chg.refl [] w).grown hg1 (by simp))
  have HO1 := Lib.hid hown1
  clear hown1 hg1
  go_wp2
  go_loopw [6, 7] (fun at_ i wr => ∃ j : Nat, j ≤ S.length ∧ at_ = .int .i64 ((width * j : Nat) : Int) ∧ i = .int .i64 (j : Int) ∧ Chg [] w wr ∧ wr.ownsRow w.heap.size 5 1 (.slice (some ⟨w.heap.size, 0, none⟩) cnt cnt) cnt (nv .u8 (pk (strm width S) (width * j) 8 cnt))) (fun _ i _ => S.length - (intOf i).toNat)
  case atStart => exact ⟨0, Nat.zero_le _, rfl, rfl, HC1.out, HO1.out⟩
  case round =>
    obtain ⟨j, hj, rfl, rfl, hcj, hoj⟩ := hrel
    have HCJ := Lib.hid hcj; have HOJ := Lib.hid hoj; clear hcj hoj
    by_cases hlt : j < S.length
    · obtain ⟨A0, hA0⟩ : ∃ A0, A0 = width * j := ⟨_, rfl⟩
      have hA1 : A0 + width ≤ N := by
        have h := HN.out
        have : width * (j + 1) ≤ width * S.length := Nat.mul_le_mul_left _ hlt
        rw [Nat.mul_add, Nat.mul_one] at this
        omega
      rw [← hA0] at HOJ ⊢
      have HA := Lib.hid hA0; clear hA0
      obtain ⟨x, rfl, hcell⟩ := (HS.out).at rfl (by omega)
      have hxw := Lib.hid (hcell j hlt)
      have hs64 : S.getD j 0 ≤ 18446744073709551615 := by
        have h := HSL.out (S.getD j 0) (by simp only [List.getD, List.getElem?_eq_getElem hlt]; exact List.getElem_mem hlt)
        omega
      clear hcell
      obtain ⟨s, hs⟩ : ∃ s, s = S.getD j 0 := ⟨_, rfl⟩
      rw [← hs] at hxw hs64
      have HSJ := Lib.hid hs; clear hs
      have hlt2 : decide (j < S.length) = true := by simpa using hlt
      go_wp2
      go_loopw [6, 8] (fun at_ k wx => ∃ k' : Nat, k' ≤ width ∧ at_ = .int .i64 ((A0 + k' : Nat) : Int) ∧ k = .int .i64 (k' : Int) ∧ Chg [] w wx ∧ wx.ownsRow w.heap.size 5 1 (.slice (some ⟨w.heap.size, 0, none⟩) cnt cnt) cnt (nv .u8 (pk (strm width S) (A0 + k') 8 cnt))) (fun _ k _ => width - (intOf k).toNat)
      case atStart => exact ⟨0, Nat.zero_le _, rfl, rfl, HCJ.out, HOJ.out⟩
      case round =>
        obtain ⟨k, hk, rfl, rfl, hck, hok⟩ := hrel
        have HCK := Lib.hid hck; have HOK := Lib.hid hok; clear hck hok
        by_cases hkw : k < width
        · have hkw2 : decide (k < width) = true := by simpa using hkw
          obtain ⟨a, ha⟩ : ∃ a, a = A0 + k := ⟨_, rfl⟩
          have haN : a < N := by omega
          have hac : a / 8 < cnt := by have := HCN.out; omega
          rw [← ha] at HOK ⊢
          have hnext : Hid (A0 + (k + 1) = a + 1) := Lib.hid (by omega)
          have HAK := Lib.hid ha; clear ha
          have hbit := Lib.hid (tb_strm width S j k hkw)
          have hx1 := HCK.out.cell hxw.out (by simp)
          have h64 := bit64 s k hs64
          have hX : Hid ((strm width S).testBit a = s.testBit k) := Lib.hid (by rw [HSJ.out, HAK.out, HA.out]; exact hbit.out)
          by_cases hb : s.testBit k = true
          · rw [if_pos hb] at h64
            have hbb : (bits BinOp.and IntKind.u64 ((s : Int) / 2 ^ k) 1 == 1) = true := by rw [h64]; rfl
            have HXT := Lib.hid (hX.out.trans hb)
            clear h64 hb hX hbit
            have hy := own_cell HOK.out (by simp) (a / 8) hac
            have hfy := HOK.out.frozenAt (a / 8)
            obtain ⟨d, hd⟩ : ∃ d, d = (pk (strm width S) a 8 cnt).getD (a / 8) 0 := ⟨_, rfl⟩
            rw [← hd] at hy
            have hd8 : d ≤ 255 := by
              rw [hd, pk_getD _ _ _ _ _ hac]
              have := wd_lt (strm width S) a 8 (a / 8)
              omega
            have HDD := Lib.hid hd; clear hd
            go_wp2
            have hst := HOK.out.stored (a / 8) (.int .u8 ((d ||| 2 ^ (a % 8) : Nat) : Int))
            rw [nv_set, HDD.out, pk_getD _ _ _ _ _ hac, ← pk_bit (strm width S) a 8 cnt (by decide) HXT.out] at hst
            rw [pk_getD _ _ _ _ _ hac] at HDD
            rw [← HDD.out] at hst
            have hcc : Chg [] w (wr.setCell ⟨w.heap.size, a / 8, none⟩ (.int .u8 ((d ||| 2 ^ (a % 8) : Nat) : Int))) := HCK.out.setCell (by simp) _
            rw [orb_eq d (a % 8) hd8 (by omega)]
            go_roundw
            case rel => exact ⟨k + 1, by omega, by rw [hnext.out]; go_num, by go_num, hcc, by rw [hnext.out]; exact hst.1⟩
            case measure => simp [intOf]; omega
          · rw [if_neg hb] at h64
            have hbb : (bits BinOp.and IntKind.u64 ((s : Int) / 2 ^ k) 1 == 1) = false := by rw [h64]; rfl
            have HXF := Lib.hid (hX.out.trans (by simpa using hb : s.testBit k = false))
            clear h64 hb hX hbit
            go_wp2
            go_roundw
            case rel => exact ⟨k + 1, by omega, by rw [hnext.out]; go_num, by go_num, HCK.out, by rw [hnext.out, pk_nobit _ _ _ _ HXF.out]; exact HOK.out⟩
            case measure => simp [intOf]; omega
        · have hkw2 : decide (k < width) = false := by simpa using hkw
          have hkk := Lib.hid (show k = width by omega)
          go_wp2
          go_roundw
          case rel => exact ⟨j + 1, hlt, by rw [Nat.mul_add, Nat.mul_one, ← HA.out, ← hkk.out], by go_num, HCK.out, by have h := HOK.out; rw [hkk.out, HA.out] at h; rw [Nat.mul_add, Nat.mul_one]; exact h⟩
          case measure => simp [intOf]; omega
    · have hlt2 : decide (j < S.length) = false := by simpa using hlt
      have hjl := Lib.hid (show j = S.length by omega)
      go_wp2
      go_ret
      have e1 : packed width S = pk (strm width S) N 8 cnt := by unfold packed; rw [← HN.out, ← HCN.out]
      have e2 : (pk (strm width S) N 8 cnt).length = cnt := pk_length _ _ _ _
      refine ⟨w.heap.size, by rw [e1, e2]; rfl, ?_⟩
      rw [e1]
      refine ⟨HCJ.out, ?_⟩
      rw [e2]
      have h := HOJ.out
      rw [hjl.out, ← HN.out] at h
      exact h


theorem runpack_args (bv : Value) (n width : Int) (w : World) (h : n < 0 ∨ 4000 < n ∨ width < 0 ∨ 64 < width) :
    Calls Try.prog 26 #[bv, .int .i64 n, .int .i64 width] w fun e w' => e = .returned (.tuple #[.slice none 0 0, .int .i64 1]) ∧ w = w' := by
  by_cases h1 : n < 0
  · clear h
    go_enter Try.func26, Try.ntmps26
    go_wp2
    go_ret2
    exact ⟨rfl, rfl⟩
  by_cases h2 : 4000 < n
  · clear h
    go_enter Try.func26, Try.ntmps26
    go_wp2
    go_ret2
    exact ⟨rfl, rfl⟩
  by_cases h3 : width < 0
  · clear h
    go_enter Try.func26, Try.ntmps26
    go_wp2
    go_ret2
    exact ⟨rfl, rfl⟩
  have h4 : 64 < width := by omega
  clear h
  go_enter Try.func26, Try.ntmps26
  go_wp2
  go_ret2
  exact ⟨rfl, rfl⟩

/-- The numbers that are read, none where it is refused. -/
def outU (b : List Nat) (n w : Nat) : List Nat := if faultOf b (w * n) = 0 then unpacked b n w else []

/-- What Unpack answers, the program's and the reference's. -/
def UnpackOut (b : List Nat) (n width : Nat) (w : World) (e : Ending) (w' : World) : Prop :=
  ∃ v, e = .returned (.tuple #[v, .int .i64 (faultOf b (width * n))]) ∧ Made 41 .u64 (outU b n width) w v w'

theorem made_nil (w : World) : Made 41 .u64 [] w (.slice none 0 0) w := ⟨Chg.refl _ _, ⟨rfl, .inl ⟨rfl, rfl⟩⟩⟩

theorem unpack_any (bv : Value) (b : List Nat) (n width : Nat) (w : World) (hn : n ≤ 4000) (hw : width ≤ 64) (hS : Seen w bv (nv .u8 b)) (hb : ∀ x ∈ b, x < 2 ^ 8) :
    Calls Try.prog 46 #[bv, .int .i64 n, .int .i64 width] w (UnpackOut b n width w) := by
  by_cases hf : faultOf b (width * n) = 0
  · refine (unpack_yes bv b n width w hn hw hS hb hf).mono ?_
    rintro e w' ⟨g, rfl, h⟩
    refine ⟨_, by rw [hf], ?_⟩
    unfold outU
    rw [if_pos hf]
    exact h
  · refine (unpack_no bv b n width w hn hw hS hb hf).mono ?_
    rintro e w' ⟨rfl, rfl⟩
    refine ⟨_, rfl, ?_⟩
    unfold outU
    rw [if_neg hf]
    exact made_nil _

theorem bitor_eq (v s r k : Nat) (hs : s ≤ 255) (hv : v ≤ 18446744073709551615) (hk : k < 64) :
    bits BinOp.or IntKind.u64 (v : Int) (IntKind.u64.wrap (IntKind.u64.wrap (bits BinOp.and IntKind.u8 ((s : Int) / 2 ^ r) 1) * 2 ^ k)) = ((v ||| (if s.testBit r then 1 else 0) * 2 ^ k : Nat) : Int) := by
  have hp2 : 2 ^ k ≤ 2 ^ 63 := Nat.pow_le_pow_right (by decide) (by omega)
  rw [bit8 s r hs]
  by_cases c : s.testBit r = true
  · rw [if_pos c, if_pos c, wraps64 1 (by decide) (by decide)]
    exact or64_eq v 1 k hv (by omega)
  · rw [if_neg c, if_neg c, wraps64 0 (by decide) (by decide)]
    exact or64_eq v 0 k hv (by omega)

set_option maxRecDepth 100000 in
set_option maxHeartbeats 1000000 in
theorem runpack_any (bv : Value) (b : List Nat) (n width : Nat) (w : World) (hn : n ≤ 4000) (hw : width ≤ 64) (hbl : b.length < 137438953472) (hS : Seen w bv (nv .u8 b)) (hb : ∀ x ∈ b, x < 2 ^ 8) :
    Calls Try.prog 26 #[bv, .int .i64 n, .int .i64 width] w (UnpackOut b n width w) := by
  obtain ⟨N, hN⟩ : ∃ N, N = width * n := ⟨_, rfl⟩
  have hN2 : N < 1099511627776 := by
    have : width * n ≤ 64 * 4000 := Nat.mul_le_mul hw hn
    omega
  have hNi : (n : Int) * (width : Int) = (N : Int) := by rw [hN]; push_cast; exact Int.mul_comm _ _
  have HNI := Lib.hid hNi; clear hNi
  obtain ⟨ao, cap, rfl, hc1, hc2⟩ := hS.shape
  rw [nv_length] at hc1 hS
  rw [nv_length]
  have HS := Lib.hid hS; have HB := Lib.hid hb; have HN := Lib.hid hN; clear hS hb hN
  obtain ⟨c, hc⟩ : ∃ c, c = (N + 7) / 8 := ⟨_, rfl⟩
  have HC := Lib.hid hc
  by_cases h1 : b.length < c
  · have hf : faultOf b (width * n) = 8 := by unfold faultOf; rw [← HN.out, ← hc, if_pos h1]
    have hd : decide (b.length < c) = true := by simpa using h1
    have HF := Lib.hid hf
    clear hc hf
    go_enter Try.func26, Try.ntmps26
    go_wp2_with fail
    refine (brsize_any _ _ N _ HNI.out hN2).mono ?_
    rintro e w1 ⟨rfl, rfl⟩
    rw [← HC.out]
    go_wp2
    go_ret2
    refine ⟨.slice none 0 0, by rw [HF.out]; rfl, ?_⟩
    unfold outU
    rw [if_neg (by rw [HF.out]; decide)]
    exact made_nil _
  have hd : decide (b.length < c) = false := by simpa using h1
  by_cases h2 : c < b.length
  · have hf : faultOf b (width * n) = 9 := by unfold faultOf; rw [← HN.out, ← hc, if_neg h1, if_pos h2]
    have hd2 : decide (c < b.length) = true := by simpa using h2
    have HF := Lib.hid hf
    clear hc hf h1 h2
    go_enter Try.func26, Try.ntmps26
    go_wp2_with fail
    refine (brsize_any _ _ N _ HNI.out hN2).mono ?_
    rintro e w1 ⟨rfl, rfl⟩
    rw [← HC.out]
    go_wp2_with fail
    refine (brsize_any _ _ N _ HNI.out hN2).mono ?_
    rintro e w1 ⟨rfl, rfl⟩
    rw [← HC.out]
    go_wp2
    go_ret2
    refine ⟨.slice none 0 0, by rw [HF.out]; rfl, ?_⟩
    unfold outU
    rw [if_neg (by rw [HF.out]; decide)]
    exact made_nil _
  have hd2 : decide (c < b.length) = false := by simpa using h2
  have hbc : b.length = c := by omega
  have hNb : N ≤ 8 * b.length := by omega
  have hff : Hid (faultOf b (width * n) = if strm 8 b / 2 ^ N = 0 then 0 else 10) := Lib.hid (by unfold faultOf; rw [← HN.out, ← hc, if_neg h1, if_neg h2])
  obtain ⟨i0, hi, hz0, hz1, hz2⟩ := info_u64
  clear hc h1 h2 hbc
  go_enter Try.func26, Try.ntmps26
  go_wp2_with fail
  refine (brsize_any _ _ N _ HNI.out hN2).mono ?_
  rintro e w1 ⟨rfl, rfl⟩
  rw [← HC.out]
  go_wp2_with fail
  refine (brsize_any _ _ N _ HNI.out hN2).mono ?_
  rintro e w1 ⟨rfl, rfl⟩
  rw [← HC.out]
  go_wp2
  go_loopw [8, 9, 10] (fun l at_ i wr => ∃ j : Nat, j ≤ n ∧ at_ = .int .i64 ((width * j : Nat) : Int) ∧ i = .int .i64 (j : Int) ∧ Chg [] w wr ∧ wr.ownsRow w.heap.size 41 1 l j (nv .u64 (pk (strm 8 b) N width j))) (fun _ _ i _ => n - (intOf i).toNat)
  case atStart => exact ⟨0, Nat.zero_le _, rfl, rfl, Chg.refl _ _, ⟨rfl, .inl ⟨rfl, rfl⟩⟩⟩
  case round =>
    obtain ⟨j, hj, rfl, rfl, hcj, hoj⟩ := hrel
    have HCJ := Lib.hid hcj
    have hBw : w.heap.size ≤ wr.heap.size := hcj.size
    clear hcj
    by_cases hlt : j < n
    · obtain ⟨A0, hA0⟩ : ∃ A0, A0 = width * j := ⟨_, rfl⟩
      have hA1 : A0 + width ≤ N := by
        have h := HN.out
        have : width * (j + 1) ≤ width * n := Nat.mul_le_mul_left _ hlt
        rw [Nat.mul_add, Nat.mul_one] at this
        omega
      rw [← hA0]
      have HA := Lib.hid hA0; clear hA0
      have hlt2 : decide (j < n) = true := by simpa using hlt
      obtain ⟨ao', cap', rfl⟩ := own_shape hoj
      have HOJ := Lib.hid hoj; clear hoj
      go_wp2
      go_loop [9, 11, 12] (fun at_ v k => ∃ k' : Nat, k' ≤ width ∧ at_ = .int .i64 ((A0 + k' : Nat) : Int) ∧ k = .int .i64 (k' : Int) ∧ v = .int .u64 ((wd (strm 8 b) (A0 + k') width j : Nat) : Int)) (fun _ _ k => width - (intOf k).toNat)
      case atStart => exact ⟨0, Nat.zero_le _, rfl, rfl, by rw [Nat.add_zero, HA.out, wd_none]; rfl⟩
      case round =>
        obtain ⟨k, hk, rfl, rfl, rfl⟩ := hrel
        by_cases hkw : k < width
        · have hkw2 : decide (k < width) = true := by simpa using hkw
          obtain ⟨a, ha⟩ : ∃ a, a = A0 + k := ⟨_, rfl⟩
          have haN : a < N := by omega
          have hac : a / 8 < b.length := by omega
          rw [← ha]
          have hnext : Hid (A0 + (k + 1) = a + 1) := Lib.hid (by omega)
          have HAK := Lib.hid ha; clear ha
          obtain ⟨x, rfl, hcell⟩ := (HS.out.keep HCJ.out).at rfl (by omega)
          have hx := hcell (a / 8) hac
          clear hcell
          have hs8 : b.getD (a / 8) 0 ≤ 255 := by
            have h := HB.out (b.getD (a / 8) 0) (by simp only [List.getD, List.getElem?_eq_getElem hac]; exact List.getElem_mem hac)
            omega
          obtain ⟨s, hs⟩ : ∃ s, s = b.getD (a / 8) 0 := ⟨_, rfl⟩
          rw [← hs] at hx hs8
          obtain ⟨v, hv⟩ : ∃ v, v = wd (strm 8 b) a width j := ⟨_, rfl⟩
          have hv64 : v ≤ 18446744073709551615 := by
            have h1 := wd_lt (strm 8 b) a width j
            have hpw : 2 ^ width ≤ 2 ^ 64 := Nat.pow_le_pow_right (by decide) hw
            omega
          rw [← hv]
          have HSJ := Lib.hid hs; have HV := Lib.hid hv; clear hs hv
          have h8 := Lib.hid (bitor_eq v s (a % 8) k hs8 hv64 (by omega))
          have hfin : Hid (wd (strm 8 b) (A0 + (k + 1)) width j = v ||| (if s.testBit (a % 8) then 1 else 0) * 2 ^ k) := Lib.hid (by
            have h := tb_strm 8 b (a / 8) (a % 8) (by omega)
            rw [show 8 * (a / 8) + a % 8 = a by omega, ← HSJ.out] at h
            rw [HA.out, wd_next _ _ _ _ hkw, ← HA.out, ← HAK.out, ← HV.out, h])
          go_wp2
          rw [h8.out]
          go_round
          case rel => exact ⟨k + 1, by omega, by rw [hnext.out]; go_num, by go_num, by rw [hfin.out]⟩
          case measure => simp [intOf]; omega
        · have hkw2 : decide (k < width) = false := by simpa using hkw
          have hkk := Lib.hid (show k = width by omega)
          obtain ⟨v, hv⟩ : ∃ v, v = wd (strm 8 b) (A0 + k) width j := ⟨_, rfl⟩
          rw [← hv]
          have hvj : Hid (nv .u64 (pk (strm 8 b) N width j) ++ [.int .u64 (v : Int)] = nv .u64 (pk (strm 8 b) N width (j + 1))) := Lib.hid (by
            have e1 : width * (j + 1) ≤ A0 + k := by rw [hkk.out, HA.out, Nat.mul_add, Nat.mul_one]; exact Nat.le_refl _
            have e2 : width * (j + 1) ≤ N := by rw [Nat.mul_add, Nat.mul_one, ← HA.out]; exact hA1
            rw [hv, wd_whole _ _ _ _ e1, ← wd_whole _ N _ _ e2]
            simp [nv, pk, List.range_succ])
          clear hv
          go_wp2_with (at_builtin; refine wpList_append_own _ rfl _ _ 42 rfl w.heap.size 41 i0 (.int .u64 0) 1 8 Try.underlying42 hi hz0 hz1 hz2 rfl (by decide) _ _ _ rfl (HOJ.out.alloc _) ⟨wr.heap.size, 0, none⟩ 1 1 [.int .u64 (v : Int)] rfl rfl ?c1 ?c2 ?c3 ?c4 ?c5 ?_)
          case c2 => simp [Value.oneCell']
          case c3 => unfold maxLen; omega
          case c4 => omega
          case c5 => exact Nat.le_succ_of_le hBw
          intro v' w1 hown' hgrow _
          rw [hvj.out] at hown'
          have hg : Chg [] w w1 := (HCJ.out.alloc _).grown hgrow (fun k hk => .inr (HOJ.out.lt k hk).1)
          have HG := Lib.hid hg; have HO1 := Lib.hid hown'
          clear hgrow hg hown'
          go_wp2
          go_roundw
          case rel => exact ⟨j + 1, hlt, by rw [Nat.mul_add, Nat.mul_one, ← HA.out, ← hkk.out]; go_num, by go_num, HG.out, HO1.out⟩
          case measure => simp [intOf]; omega
    · have hlt2 : decide (j < n) = false := by simpa using hlt
      have hjn := Lib.hid (show j = n by omega)
      obtain ⟨ao', cap', rfl⟩ := own_shape hoj
      rw [hjn.out] at hoj ⊢
      rw [← HN.out]
      have HOJ := Lib.hid hoj; clear hoj
      go_wp2
      go_loop [9] (fun at_ => ∃ m : Nat, N + m ≤ 8 * b.length ∧ at_ = .int .i64 ((N + m : Nat) : Int) ∧ Hid (∀ p, p < m → (strm 8 b).testBit (N + p) = false)) (fun at_ => 8 * b.length - (intOf at_).toNat)
      case atStart => exact ⟨0, by omega, rfl, Lib.hid (fun p hp => by omega)⟩
      case round =>
        obtain ⟨m, hm, rfl, hz⟩ := hrel
        obtain ⟨a, ha⟩ : ∃ a, a = N + m := ⟨_, rfl⟩
        rw [← ha] at hm ⊢
        have HA := Lib.hid ha; clear ha
        by_cases hlt3 : a < 8 * b.length
        · have hac : a / 8 < b.length := by omega
          obtain ⟨x, rfl, hcell⟩ := (HS.out.keep HCJ.out).at rfl (by omega)
          have hx := hcell (a / 8) hac
          clear hcell
          have hs8 : b.getD (a / 8) 0 ≤ 255 := by
            have h := HB.out (b.getD (a / 8) 0) (by simp only [List.getD, List.getElem?_eq_getElem hac]; exact List.getElem_mem hac)
            omega
          obtain ⟨s, hs⟩ : ∃ s, s = b.getD (a / 8) 0 := ⟨_, rfl⟩
          rw [← hs] at hx hs8
          have hbt : (strm 8 b).testBit a = s.testBit (a % 8) := by
            have h := tb_strm 8 b (a / 8) (a % 8) (by omega)
            rwa [show 8 * (a / 8) + a % 8 = a by omega, ← hs] at h
          clear hs
          have h8 := bit8 s (a % 8) hs8
          by_cases hb : s.testBit (a % 8) = true
          · rw [if_pos hb] at h8
            have hbb : (bits BinOp.and IntKind.u8 ((s : Int) / 2 ^ (a % 8)) 1 == 1) = true := by rw [h8]; rfl
            have hf : Hid (faultOf b (width * n) = 10) := Lib.hid (by
              rw [hff.out, if_neg]
              intro h0
              have : (strm 8 b / 2 ^ N).testBit m = false := by rw [h0]; simp
              rw [Nat.testBit_div_two_pow, Nat.add_comm, ← HA.out, hbt, hb] at this
              cases this)
            clear h8 hb hbt
            go_wp2
            go_ret2
            refine ⟨.slice none 0 0, by rw [hf.out]; rfl, ?_⟩
            unfold outU
            rw [if_neg (by rw [hf.out]; decide)]
            exact ⟨HCJ.out, ⟨rfl, .inl ⟨rfl, rfl⟩⟩⟩
          · rw [if_neg hb] at h8
            have hbb : (bits BinOp.and IntKind.u8 ((s : Int) / 2 ^ (a % 8)) 1 == 1) = false := by rw [h8]; rfl
            have hz' : Hid (∀ p, p < m + 1 → (strm 8 b).testBit (N + p) = false) := Lib.hid (fun p hp => by
              by_cases e : p = m
              · rw [e, ← HA.out, hbt]; simpa using hb
              · exact hz.out p (by omega))
            clear h8 hb hbt
            go_wp2
            go_round
            case rel => exact ⟨m + 1, by have := HA.out; omega, by rw [← Nat.add_assoc, ← HA.out]; go_num, hz'⟩
            case measure => simp [intOf]; omega
        · have hf : Hid (faultOf b (width * n) = 0) := Lib.hid (by
            rw [hff.out, if_pos]
            apply Nat.eq_of_testBit_eq
            intro i
            rw [Nat.testBit_div_two_pow, Nat.zero_testBit]
            have := HA.out
            by_cases hi : i < m
            · rw [Nat.add_comm]; exact hz.out i hi
            · exact Nat.testBit_lt_two_pow (Nat.lt_of_lt_of_le (strm_lt 8 b) (Nat.pow_le_pow_right (by decide) (by omega))))
          go_wp2
          go_ret2
          refine ⟨.slice ao' n cap', by rw [hf.out]; rfl, ?_⟩
          unfold outU
          rw [if_pos hf.out]
          refine ⟨HCJ.out, ?_⟩
          rw [unpacked_length]
          unfold unpacked
          rw [← HN.out]
          exact HOJ.out

end Go.Proofs.Ytlhdicbhanncnaa
