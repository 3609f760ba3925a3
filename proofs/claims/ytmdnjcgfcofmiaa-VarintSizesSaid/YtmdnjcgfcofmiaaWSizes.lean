/- The walk of the statement VarintSizes. -/
import Derived.Test.YtmdnjcgfcofmiaaWZigs
namespace Go.Proofs.Ytmdnjcgfcofmiaa
open Go.RowKit
set_option linter.unusedVariables false

theorem pow128 (q : Nat) : (128 : Nat) ^ q = 2 ^ (7 * q) := by rw [Nat.pow_mul]

theorem vb_pow (k : Nat) : (vb (2 ^ k)).length = 1 + k / 7 := by
  rw [vb_len (k / 7) (2 ^ k), Nat.add_comm]
  · rw [pow128]; exact Nat.pow_lt_pow_right (by decide) (by omega)
  · right; rw [pow128]; exact Nat.pow_le_pow_right (by decide) (by omega)

theorem vb_pow1 (k : Nat) : (vb (2 ^ k - 1)).length = max 1 ((k + 6) / 7) := by
  rcases Nat.eq_zero_or_pos k with rfl | hk
  · rw [vb_lt (by decide)]; rfl
  · have hp := Nat.two_pow_pos k
    have hp1 := Nat.two_pow_pos (k - 1)
    have he : 2 ^ k = 2 ^ (k - 1) * 2 := by rw [← Nat.pow_succ]; congr 1; omega
    rw [vb_len ((k - 1) / 7) (2 ^ k - 1)]
    · omega
    · rw [pow128]
      have : 2 ^ k ≤ 2 ^ (7 * ((k - 1) / 7 + 1)) := Nat.pow_le_pow_right (by decide) (by omega)
      omega
    · right
      rw [pow128]
      have : 2 ^ (7 * ((k - 1) / 7)) ≤ 2 ^ (k - 1) := Nat.pow_le_pow_right (by decide) (by omega)
      omega

set_option maxRecDepth 100000 in
set_option maxHeartbeats 1000000 in
theorem walk_VarintSizes (a0 : Int) (w : World) (w0 : (Lit.int .i64 a0).wf = true) :
    Calls Try.prog 6 #[.int .i64 a0] w fun e w' => e = .returned (.bool true) ∧ Below w.heap.size w w' := by
  have W0 := Lib.hid w0; clear w0
  obtain ⟨k, hk⟩ : ∃ n, n = (a0 % (64 : Nat)).toNat := ⟨_, rfl⟩
  have hk2 : k < 64 := by rw [hk]; exact within_lt a0 64 (by decide)
  have HK := Lib.hid hk; clear hk
  obtain ⟨L1, hL1⟩ : ∃ L, L = (vb (2 ^ k)).length := ⟨_, rfl⟩
  obtain ⟨L2, hL2⟩ : ∃ L, L = (vb (2 ^ k - 1)).length := ⟨_, rfl⟩
  have h1 : L1 = 1 + k / 7 := by rw [hL1]; exact vb_pow k
  have h2 : L2 = max 1 ((k + 6) / 7) := by rw [hL2]; exact vb_pow1 k
  have t1 : ((L1 : Int) == 1 + (k : Int) / 7) = true := by simp; omega
  have t2 : ((L2 : Int) == max 1 (((k : Int) + 6) / 7)) = true := by simp; omega
  have HL1 := Lib.hid hL1; have HL2 := Lib.hid hL2
  clear h1 h2 hL1 hL2
  have hp : 2 ^ k < 18446744073709551616 := by
    have : 2 ^ k ≤ 2 ^ 63 := Nat.pow_le_pow_right (by decide) (by omega)
    omega
  have hp0 := Nat.two_pow_pos k
  have l0 := Lib.hid (show (vb 0).length = 1 by rw [vb_lt (by omega)]; rfl)
  have hcast : Hid ((2 : Int) ^ k = ((2 ^ k : Nat) : Int)) := Lib.hid (by simp)
  have wrapk : IntKind.u64.wrap (2 ^ k) = (2 : Int) ^ k := by
    rw [hcast.out]
    exact wraps64 _ (by omega) (by omega)
  have wrapk2 : IntKind.u64.wrap ((2 : Int) ^ k - 1) = (2 : Int) ^ k - 1 := by
    rw [hcast.out]
    exact wraps64 _ (by omega) (by omega)
  go_enter Try.func6, Try.ntmps6
  go_wp2_with fail
  (with_reducible refine (known_any _).mono ?_)
  rintro x w1 ⟨rfl, hk⟩
  have HC := Lib.hid hk; clear hk
  go_wp2_with fail
  (with_reducible refine (within_int a0 64 64 _ rfl (by decide) (by decide) W0.out).mono ?_)
  rintro x w2 ⟨rfl, rfl⟩
  rw [← HK.out]
  go_wp2_with fail
  (with_reducible refine (put_int _ [] _ (2 ^ k) w1 hcast.out (Seen.nil _) (by simp) hp).mono ?_)
  rintro x w2 ⟨y, rfl, h1, h2⟩
  obtain ⟨ao, cap, rfl⟩ := own_shape h2
  rw [List.nil_append, ← HL1.out]
  have HC2 := Lib.hid (HC.out.trans h1 (by simp))
  clear h1 h2
  go_wp2_with fail
  (with_reducible refine (put_int _ [] _ (2 ^ k - 1) w2 (by have := hcast.out; omega) (Seen.nil _) (by simp) (by omega)).mono ?_)
  rintro x w3 ⟨y, rfl, h1, h2⟩
  obtain ⟨ao, cap, rfl⟩ := own_shape h2
  rw [List.nil_append, ← HL2.out]
  have HC3 := Lib.hid (HC2.out.trans h1 (by simp))
  clear h1 h2
  go_wp2_with fail
  (with_reducible refine (put_int _ [] 0 0 w3 rfl (Seen.nil _) (by simp) (by omega)).mono ?_)
  rintro x w4 ⟨y, rfl, h1, h2⟩
  obtain ⟨ao, cap, rfl⟩ := own_shape h2
  rw [List.nil_append, l0.out]
  have HC4 := Lib.hid (HC3.out.trans h1 (by simp))
  clear h1 h2
  go_wp2
  go_ret
  exact ⟨rfl, HC4.out.below (Nat.le_refl _) (by simp)⟩

end Go.Proofs.Ytmdnjcgfcofmiaa
