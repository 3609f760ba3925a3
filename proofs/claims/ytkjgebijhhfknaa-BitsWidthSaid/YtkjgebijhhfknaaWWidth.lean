/- The walk of the statement BitsWidth. -/
import Derived.Test.YtkjgebijhhfknaaLw
import Derived.Shelf.Strconv.Itoa0
import Derived.Lib.ItoaNum
namespace Go.Proofs.Ytkjgebijhhfknaa
open Go.RowKit
open Go.Shelf
set_option linter.unusedVariables false

def lays129_ren : Go.Shelf.Ren := ⟨fun | 129 => 25 | n => n, fun | 53 => 37 | 3 => 3 | 4 => 4 | 46 => 38 | 5 => 5 | 9 => 9 | n => n, fun | n => n⟩
theorem lays129 : Go.Proofs.Lays.n129 Try.prog lays129_ren := {
  mixed := by kernel_rfl
  f129 := Try.func25.trans (congrArg some (by kernel_rfl))
  t3 := Try.underlying3
  a3 := Try.isAgg3
  z3 := Try.sizeOf3
  v3 := Try.zeroValue3
  t4 := Try.underlying4
  a4 := Try.isAgg4
  z4 := Try.sizeOf4
  v4 := Try.zeroValue4
  t5 := Try.underlying5
  a5 := Try.isAgg5
  z5 := Try.sizeOf5
  v5 := Try.zeroValue5
  t9 := Try.underlying9
  a9 := Try.isAgg9
  z9 := Try.sizeOf9
  v9 := Try.zeroValue9
  t46 := Try.underlying38
  a46 := Try.isAgg38
  z46 := Try.sizeOf38
  v46 := Try.zeroValue38
  t53 := Try.underlying37
  a53 := Try.isAgg37
  z53 := Try.sizeOf37
  v53 := Try.zeroValue37 }

/-- How many bits a number has. -/
def blen (v : Nat) : Nat := Lib.bitLen v

theorem blen_spec (v : Nat) (h : v < 18446744073709551616) : blen v ≤ 64 ∧ v < 2 ^ blen v ∧ (v = 0 ∧ blen v = 0 ∨ 1 ≤ blen v ∧ 2 ^ (blen v - 1) ≤ v) := by
  unfold blen Lib.bitLen
  by_cases h0 : v = 0
  · subst h0
    rw [Lib.bitLenAux_zero]
    simp
  · obtain ⟨a, b, c⟩ := Lib.bitLenAux_bounds 64 v h h0
    have hL : Lib.bitLenAux 64 v ≤ 64 := Lib.bitLen_le v 64 (Nat.le_refl _) h
    exact ⟨hL, c, .inr ⟨a, b⟩⟩

theorem blen_of (v k : Nat) (h : v < 18446744073709551616) (h1 : v < 2 ^ k) (h2 : k = 0 ∨ 2 ^ (k - 1) ≤ v) : blen v = k := by
  obtain ⟨a, b, c⟩ := blen_spec v h
  have hlt : ∀ m n : Nat, 2 ^ m < 2 ^ n → m < n := fun m n h => (Nat.pow_lt_pow_iff_right (by decide)).1 h
  rcases c with ⟨rfl, e⟩ | ⟨c1, c2⟩
  · rw [e]
    rcases h2 with h2 | h2
    · exact h2.symm
    · have := Nat.two_pow_pos (k - 1); omega
  · rcases h2 with h2 | h2
    · subst h2
      have := Nat.two_pow_pos (blen v - 1)
      omega
    · have h3 := hlt (blen v - 1) k (by omega)
      have h4 := hlt (k - 1) (blen v) (by omega)
      by_cases hk : k = 0
      · subst hk; omega
      · omega

theorem width_any (v : Nat) (w : World) (hv : v < 18446744073709551616) :
    Calls Try.prog 18 #[.int .u64 v] w fun e w' => e = .returned (.int .i64 (blen v : Nat)) ∧ w = w' := by
  have hv2 : (v : Int) ≤ 18446744073709551615 := by omega
  go_enter Try.func18, Try.ntmps18
  go_wp2_with fail
  refine (Any.bits_Len64 lays129 _ _ (by omega) hv2).mono ?_
  rintro e w1 ⟨rfl, rfl⟩
  go_wp2
  go_ret
  exact ⟨rfl, rfl⟩

theorem width_int (x : Int) (v : Nat) (w : World) (hx : x = (v : Int)) (hv : v < 18446744073709551616) :
    Calls Try.prog 18 #[.int .u64 x] w fun e w' => e = .returned (.int .i64 (blen v : Nat)) ∧ w = w' := by
  rw [hx]; exact width_any v w hv

set_option maxRecDepth 100000 in
set_option maxHeartbeats 1000000 in
theorem walk_BitsWidth (a0 : Int) (a1 : Int) (w : World) (w0 : (Lit.int .u64 a0).wf = true) (w1 : (Lit.int .i64 a1).wf = true) :
    Calls Try.prog 6 #[.int .u64 a0, .int .i64 a1] w fun e w' => e = .returned (.bool true) ∧ Below w.heap.size w w' := by
  have b0 := wf_u64 w0
  have W1 := Lib.hid w1; clear w0 w1
  obtain ⟨v, rfl⟩ := Int.eq_ofNat_of_zero_le b0.1
  have hv : v < 18446744073709551616 := by omega
  obtain ⟨k, hk⟩ : ∃ n, n = (a1 % (64 : Nat)).toNat := ⟨_, rfl⟩
  have hk2 : k < 64 := by rw [hk]; exact within_lt a1 64 (by decide)
  have HK := Lib.hid hk; clear hk b0
  obtain ⟨L, hL⟩ : ∃ L, L = blen v := ⟨_, rfl⟩
  obtain ⟨s1, s2, s3⟩ := blen_spec v hv
  rw [← hL] at s1 s2 s3
  have HL := Lib.hid hL; clear hL
  have hp2 : 2 ^ k < 18446744073709551616 := by
    have : 2 ^ k ≤ 2 ^ 63 := Nat.pow_le_pow_right (by decide) (by omega)
    omega
  have hp0 := Nat.two_pow_pos k
  have x1 := Lib.hid (blen_of (2 ^ k) (k + 1) hp2 (by rw [Nat.pow_succ]; omega) (.inr (by simp)))
  have x2 := Lib.hid (blen_of (2 ^ k - 1) k (by omega) (by omega) (by
    by_cases h : k = 0
    · exact .inl h
    · right
      have e : 2 ^ k = 2 ^ (k - 1) * 2 := by rw [← Nat.pow_succ]; congr 1; omega
      have := Nat.two_pow_pos (k - 1)
      omega))
  have hfit : Hid ((v : Int) / 2 ^ L = 0) := Lib.hid (by
    have : v / 2 ^ L = 0 := Nat.div_eq_of_lt s2
    exact_mod_cast this)
  have htight : Hid (L ≠ 0 → (v : Int) / 2 ^ (L - 1) = 1) := Lib.hid (fun h => by
    rcases s3 with s3 | ⟨s3, s4⟩
    · omega
    · have e : 2 ^ L = 2 ^ (L - 1) * 2 := by rw [← Nat.pow_succ]; congr 1; omega
      have : v / 2 ^ (L - 1) = 1 := by
        have hpos := Nat.two_pow_pos (L - 1)
        rw [Nat.div_eq_iff (by omega)]; omega
      exact_mod_cast this)
  have hvz : Hid (L = 0 → v = 0) := Lib.hid (fun h => by rw [h] at s2; omega)
  clear s2 s3
  have hk1 : Hid ((2 : Int) ^ k - 1 = ((2 ^ k - 1 : Nat) : Int)) := Lib.hid (by
    have : (2 : Int) ^ k = ((2 ^ k : Nat) : Int) := by simp
    rw [this]; omega)
  have wrapk : IntKind.u64.wrap (2 ^ k) = (2 : Int) ^ k := by
    rw [show (2 : Int) ^ k = ((2 ^ k : Nat) : Int) by simp]
    exact wraps64 _ (by omega) (by omega)
  have wrapk2 : IntKind.u64.wrap ((2 : Int) ^ k - 1) = (2 : Int) ^ k - 1 := by
    rw [hk1.out]
    exact wraps64 _ (by omega) (by omega)
  by_cases h64 : L = 64
  · have hb : ((L : Int) == 64) = true := by simp; omega
    have hb0 : ((L : Int) == 0) = false := by simp; omega
    have ht := htight.out (by omega)
    have hbt : ((v : Int) / 2 ^ (L - 1) == 1) = true := by rw [ht]; rfl
    have h63 : (v : Int) / 9223372036854775808 = 1 := by rw [h64] at ht; exact ht
    clear ht hbt
    go_enter Try.func6, Try.ntmps6
    go_wp2_with fail
    refine (known_any _).mono ?_
    rintro x w1 ⟨rfl, hk⟩
    have HC := Lib.hid hk; clear hk
    go_wp2_with fail
    refine (within_nat a1 64 _ (by decide) (by decide) W1.out).mono ?_
    rintro x w2 ⟨rfl, rfl⟩
    rw [← HK.out]
    go_wp2_with fail
    refine (width_any v _ hv).mono ?_
    rintro x w2 ⟨rfl, rfl⟩
    rw [← HL.out]
    go_wp2_with fail
    refine (width_int _ (2 ^ k) _ (by simp) hp2).mono ?_
    rintro x w2 ⟨rfl, rfl⟩
    rw [x1.out]
    go_wp2_with fail
    refine (width_int _ (2 ^ k - 1) _ hk1.out (by omega)).mono ?_
    rintro x w2 ⟨rfl, rfl⟩
    rw [x2.out]
    go_wp2
    go_ret
    exact ⟨rfl, HC.out.below (Nat.le_refl _) (by simp)⟩
  · have hb : ((L : Int) == 64) = false := by simp; omega
    have hbf : ((v : Int) / 2 ^ L == 0) = true := by rw [hfit.out]; rfl
    by_cases h0 : L = 0
    · have hb0 : ((L : Int) == 0) = true := by simp; omega
      have hz := hvz.out h0
      clear h64
      go_enter Try.func6, Try.ntmps6
      go_wp2_with fail
      refine (known_any _).mono ?_
      rintro x w1 ⟨rfl, hk⟩
      have HC := Lib.hid hk; clear hk
      go_wp2_with fail
      refine (within_nat a1 64 _ (by decide) (by decide) W1.out).mono ?_
      rintro x w2 ⟨rfl, rfl⟩
      rw [← HK.out]
      go_wp2_with fail
      refine (width_int _ v _ (by rw [hz]; rfl) hv).mono ?_
      rintro x w2 ⟨rfl, rfl⟩
      rw [← HL.out]
      go_wp2_with fail
      refine (width_int _ (2 ^ k) _ (by simp) hp2).mono ?_
      rintro x w2 ⟨rfl, rfl⟩
      rw [x1.out]
      go_wp2_with fail
      refine (width_int _ (2 ^ k - 1) _ hk1.out (by omega)).mono ?_
      rintro x w2 ⟨rfl, rfl⟩
      rw [x2.out]
      go_wp2
      go_ret
      exact ⟨rfl, HC.out.below (Nat.le_refl _) (by simp)⟩
    · have hb0 : ((L : Int) == 0) = false := by simp; omega
      have ht := htight.out h0
      have hbt : ((v : Int) / 2 ^ (L - 1) == 1) = true := by rw [ht]; rfl
      have hL1 : (L : Int) - 1 = ((L - 1 : Nat) : Int) := by omega
      clear ht
      go_enter Try.func6, Try.ntmps6
      go_wp2_with fail
      refine (known_any _).mono ?_
      rintro x w1 ⟨rfl, hk⟩
      have HC := Lib.hid hk; clear hk
      go_wp2_with fail
      refine (within_nat a1 64 _ (by decide) (by decide) W1.out).mono ?_
      rintro x w2 ⟨rfl, rfl⟩
      rw [← HK.out]
      go_wp2_with fail
      refine (width_any v _ hv).mono ?_
      rintro x w2 ⟨rfl, rfl⟩
      rw [← HL.out]
      go_wp2_with fail
      refine (width_int _ (2 ^ k) _ (by simp) hp2).mono ?_
      rintro x w2 ⟨rfl, rfl⟩
      rw [x1.out]
      go_wp2_with fail
      refine (width_int _ (2 ^ k - 1) _ hk1.out (by omega)).mono ?_
      rintro x w2 ⟨rfl, rfl⟩
      rw [x2.out]
      go_wp2
      go_ret
      exact ⟨rfl, HC.out.below (Nat.le_refl _) (by simp)⟩

end Go.Proofs.Ytkjgebijhhfknaa
