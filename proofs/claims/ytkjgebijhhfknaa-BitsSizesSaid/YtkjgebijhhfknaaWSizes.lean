/- The walks of the statements BitsSizes, BitsArgs. -/
import Derived.Test.YtkjgebijhhfknaaLw
namespace Go.Proofs.Ytkjgebijhhfknaa
open Go.RowKit
set_option linter.unusedVariables false

set_option maxHeartbeats 1000000 in
theorem walk_BitsSizes (a0 : Int) (a1 : Int) (w : World) (w0 : (Lit.int .i64 a0).wf = true) (w1 : (Lit.int .i64 a1).wf = true) :
    Calls Try.prog 7 #[.int .i64 a0, .int .i64 a1] w fun e w' => e = .returned (.bool true) ∧ Below w.heap.size w w' := by
  obtain ⟨i0, hi, hz0, hz1, hz2⟩ := info_u64
  have W0 := Lib.hid w0; have W1 := Lib.hid w1; clear w0 w1
  obtain ⟨n, hn⟩ : ∃ n, n = (a0 % (200 : Nat)).toNat := ⟨_, rfl⟩
  obtain ⟨k, hk⟩ : ∃ n, n = (a1 % (65 : Nat)).toNat := ⟨_, rfl⟩
  have hn2 : n < 200 := by rw [hn]; exact within_lt a0 200 (by decide)
  have hk2 : k < 65 := by rw [hk]; exact within_lt a1 65 (by decide)
  have HN := Lib.hid hn; have HK := Lib.hid hk; clear hn hk
  have hcm : n ≤ maxLen := by unfold maxLen; omega
  obtain ⟨N, hN⟩ : ∃ N, N = k * n := ⟨_, rfl⟩
  have hN2 : N ≤ 64 * 200 := by rw [hN]; exact Nat.mul_le_mul (by omega) (by omega)
  have hNi : (n : Int) * (k : Int) = (N : Int) := by rw [hN]; push_cast; exact Int.mul_comm _ _
  have HNN := Lib.hid hN; clear hN
  go_enter Try.func7, Try.ntmps7
  go_wp2_with fail
  refine (known_any _).mono ?_
  rintro x w1 ⟨rfl, hk⟩
  have HC := Lib.hid hk; clear hk
  go_wp2_with fail
  refine (within_nat a0 200 _ (by decide) (by decide) W0.out).mono ?_
  rintro x w2 ⟨rfl, rfl⟩
  rw [← HN.out]
  go_wp2_with fail
  refine (within_nat a1 65 _ (by decide) (by decide) W1.out).mono ?_
  rintro x w2 ⟨rfl, rfl⟩
  rw [← HK.out]
  go_wp2_with (at_make; refine wpList_make_full _ rfl _ _ 22 rfl w1.heap.size 37 i0 (.int .u64 0) 1 Try.underlying22 hi hz0 hz1 .i64 .i64 _ _ n rfl rfl rfl rfl ?c1 ?c2 (Nat.le_refl _) ?_)
  case c1 => rw [hz2]; omega
  case c2 => exact hcm
  intro w2 hown1 hg1
  rw [cells_zero64] at hown1
  have HC2 := Lib.hid (HC.out.trans ((Chg.refl [] w1).grown hg1 (by simp)) (by simp))
  have HS := Lib.hid (reads_of_own hown1).seen
  clear hown1 hg1
  go_wp2_with fail
  have hl : (List.replicate n 0).length = n := by simp
  refine (pack_yes _ (List.replicate n 0) k _ (by omega) (by rw [hl]; omega) HS.out (by simp)).mono ?_
  rintro x w3 ⟨g, rfl, h1, h2⟩
  have HC3 := Lib.hid (HC2.out.trans h1 (by simp))
  have hpl : (packed k (List.replicate n 0)).length = (N + 7) / 8 := by rw [packed_length, hl, ← HNN.out]
  rw [hpl]
  clear h1 h2
  go_wp2
  go_ret
  exact ⟨rfl, HC3.out.below (Nat.le_refl _) (by simp)⟩


set_option maxRecDepth 100000 in
set_option maxHeartbeats 1000000 in
theorem walk_BitsArgs (a0 : Option Addr) (len0 cap0 : Nat) (z0 : List Int) (a1 : Int) (a2 : Int) (w : World) (w0 : IsRow .u8 w a0 len0 cap0 z0) (w1 : (Lit.int .i64 a1).wf = true) (w2 : (Lit.int .i64 a2).wf = true) :
    Calls Try.prog 9 #[.slice a0 len0 cap0, .int .i64 a1, .int .i64 a2] w fun e w' => e = .returned (.bool true) ∧ Below w.heap.size w w' := by
  have W1 := Lib.hid w1; have W2 := Lib.hid w2; clear w0 w1 w2
  by_cases hlen : 50 < len0
  · go_enter Try.func9, Try.ntmps9
    go_wp2_with fail
    refine (known_any _).mono ?_
    rintro x w1 ⟨rfl, hk⟩
    have HC := Lib.hid hk; clear hk
    go_wp2
    go_ret
    exact ⟨rfl, HC.out.below (Nat.le_refl _) (by simp)⟩
  obtain ⟨n, hn⟩ : ∃ n, n = (a1 % (99 : Nat)).toNat := ⟨_, rfl⟩
  obtain ⟨k, hk⟩ : ∃ n, n = (a2 % (65 : Nat)).toNat := ⟨_, rfl⟩
  obtain ⟨m, hm⟩ : ∃ n, n = (a2 % (99 : Nat)).toNat := ⟨_, rfl⟩
  have hn2 : n < 99 := by rw [hn]; exact within_lt a1 99 (by decide)
  have hk2 : k < 65 := by rw [hk]; exact within_lt a2 65 (by decide)
  have hm2 : m < 99 := by rw [hm]; exact within_lt a2 99 (by decide)
  have HN := Lib.hid hn; have HK := Lib.hid hk; have HM := Lib.hid hm; clear hn hk hm
  go_enter Try.func9, Try.ntmps9
  go_wp2_with fail
  refine (known_any _).mono ?_
  rintro x w1 ⟨rfl, hk⟩
  have HC := Lib.hid hk; clear hk
  go_wp2_with fail
  refine (within_nat a1 99 _ (by decide) (by decide) W1.out).mono ?_
  rintro x w2 ⟨rfl, rfl⟩
  rw [← HN.out]
  go_wp2_with fail
  refine (within_nat a2 65 _ (by decide) (by decide) W2.out).mono ?_
  rintro x w2 ⟨rfl, rfl⟩
  rw [← HK.out]
  go_wp2_with fail
  refine (unpack_args _ _ _ _ (by omega)).mono ?_
  rintro x w2 ⟨rfl, rfl⟩
  go_wp2_with fail
  refine (within_nat a1 99 _ (by decide) (by decide) W1.out).mono ?_
  rintro x w2 ⟨rfl, rfl⟩
  rw [← HN.out]
  go_wp2_with fail
  refine (within_nat a2 65 _ (by decide) (by decide) W2.out).mono ?_
  rintro x w2 ⟨rfl, rfl⟩
  rw [← HK.out]
  go_wp2_with fail
  refine (unpack_args _ _ _ _ (by omega)).mono ?_
  rintro x w2 ⟨rfl, rfl⟩
  go_wp2_with fail
  refine (within_nat a1 99 _ (by decide) (by decide) W1.out).mono ?_
  rintro x w2 ⟨rfl, rfl⟩
  rw [← HN.out]
  go_wp2_with fail
  refine (within_nat a2 99 _ (by decide) (by decide) W2.out).mono ?_
  rintro x w2 ⟨rfl, rfl⟩
  rw [← HM.out]
  go_wp2_with fail
  refine (unpack_args _ _ _ _ (by omega)).mono ?_
  rintro x w2 ⟨rfl, rfl⟩
  go_wp2_with fail
  refine (within_nat a1 99 _ (by decide) (by decide) W1.out).mono ?_
  rintro x w2 ⟨rfl, rfl⟩
  rw [← HN.out]
  go_wp2_with fail
  refine (within_nat a2 99 _ (by decide) (by decide) W2.out).mono ?_
  rintro x w2 ⟨rfl, rfl⟩
  rw [← HM.out]
  go_wp2_with fail
  refine (unpack_args _ _ _ _ (by omega)).mono ?_
  rintro x w2 ⟨rfl, rfl⟩
  go_wp2_with fail
  refine (within_nat a2 99 _ (by decide) (by decide) W2.out).mono ?_
  rintro x w2 ⟨rfl, rfl⟩
  rw [← HM.out]
  go_wp2_with fail
  refine (pack_no _ _ _ (by omega)).mono ?_
  rintro x w2 ⟨rfl, rfl⟩
  go_wp2
  go_ret
  exact ⟨rfl, (HC.out.alloc _).below (Nat.le_refl _) (by simp)⟩

end Go.Proofs.Ytkjgebijhhfknaa
