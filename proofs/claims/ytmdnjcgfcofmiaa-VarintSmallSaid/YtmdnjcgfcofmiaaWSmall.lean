/- The walk of the statement VarintSmall. -/
import Derived.Test.YtmdnjcgfcofmiaaWZigs
namespace Go.Proofs.Ytmdnjcgfcofmiaa
open Go.RowKit
set_option linter.unusedVariables false

theorem wf64_of (x : Int) (h : -9223372036854775808 ≤ x ∧ x ≤ 9223372036854775807) : (Lit.int .i64 x).wf = true := by
  simp [Lit.wf, IntKind.min, IntKind.max, IntKind.signed, IntKind.bits]; omega

set_option maxRecDepth 100000 in
set_option maxHeartbeats 1000000 in
theorem walk_VarintSmall (a0 : Int) (w : World) (w0 : (Lit.int .i64 a0).wf = true) :
    Calls Try.prog 9 #[.int .i64 a0] w fun e w' => e = .returned (.bool true) ∧ Below w.heap.size w w' := by
  have W0 := Lib.hid w0; clear w0
  obtain ⟨k, hk⟩ : ∃ n, n = (a0 % (64 : Nat)).toNat := ⟨_, rfl⟩
  have hk2 : k < 64 := by rw [hk]; exact within_lt a0 64 (by decide)
  have HK := Lib.hid hk; clear hk
  have z1 := Lib.hid (show zigOf (k : Int) = 2 * k by unfold zigOf; rw [if_neg (by omega)]; omega)
  have z2 := Lib.hid (show zigOf (-1 - (k : Int)) = 2 * k + 1 by unfold zigOf; rw [if_pos (by omega)]; omega)
  have hkw := Lib.hid (wf64_of (k : Int) (by omega))
  have hkw2 := Lib.hid (wf64_of (-1 - (k : Int)) (by omega))
  have l1 := Lib.hid (show (vb (2 * k)).length = 1 by rw [vb_lt (by omega)]; rfl)
  have l2 := Lib.hid (show (vb (2 * k + 1)).length = 1 by rw [vb_lt (by omega)]; rfl)
  go_enter Try.func9, Try.ntmps9
  go_wp2_with fail
  (with_reducible refine (known_any _).mono ?_)
  rintro x w1 ⟨rfl, hk⟩
  have HC := Lib.hid hk; clear hk
  go_wp2_with fail
  (with_reducible refine (within_int a0 64 64 _ rfl (by decide) (by decide) W0.out).mono ?_)
  rintro x w2 ⟨rfl, rfl⟩
  rw [← HK.out]
  go_wp2_with fail
  (with_reducible refine (zig_any k _ hkw.out).mono ?_)
  rintro x w2 ⟨rfl, rfl⟩
  rw [z1.out]
  go_wp2_with fail
  (with_reducible refine (put_int _ [] _ (2 * k) w1 (by omega) (Seen.nil _) (by simp) (by omega)).mono ?_)
  rintro x w2 ⟨y, rfl, h1, h2⟩
  obtain ⟨ao, cap, rfl⟩ := own_shape h2
  rw [List.nil_append, l1.out]
  have HC2 := Lib.hid (HC.out.trans h1 (by simp))
  clear h1 h2
  go_wp2_with fail
  (with_reducible refine (zig_int _ (-1 - (k : Int)) _ (by omega) hkw2.out).mono ?_)
  rintro x w3 ⟨rfl, rfl⟩
  rw [z2.out]
  go_wp2_with fail
  (with_reducible refine (put_int _ [] _ (2 * k + 1) w2 (by omega) (Seen.nil _) (by simp) (by omega)).mono ?_)
  rintro x w3 ⟨y, rfl, h1, h2⟩
  obtain ⟨ao, cap, rfl⟩ := own_shape h2
  rw [List.nil_append, l2.out]
  have HC3 := Lib.hid (HC2.out.trans h1 (by simp))
  clear h1 h2
  go_wp2_with fail
  (with_reducible refine (zig_int _ (-1 - (k : Int)) _ (by omega) hkw2.out).mono ?_)
  rintro x w4 ⟨rfl, rfl⟩
  rw [z2.out]
  go_wp2_with fail
  (with_reducible refine (zig_any k _ hkw.out).mono ?_)
  rintro x w4 ⟨rfl, rfl⟩
  rw [z1.out]
  go_wp2_with fail
  (with_reducible refine (zig_any (-9223372036854775808) _ (wf64_of _ (by decide))).mono ?_)
  rintro x w4 ⟨rfl, rfl⟩
  go_wp2_with fail
  (with_reducible refine (zag_any (zigOf (-9223372036854775808)) _ (zig_lt (by decide))).mono ?_)
  rintro x w4 ⟨rfl, rfl⟩
  rw [zag_zig]
  go_wp2
  go_ret
  exact ⟨rfl, HC3.out.below (Nat.le_refl _) (by simp)⟩

end Go.Proofs.Ytmdnjcgfcofmiaa
