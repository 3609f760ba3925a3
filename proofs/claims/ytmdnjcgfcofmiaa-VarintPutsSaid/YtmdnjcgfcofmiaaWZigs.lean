/- The walk of the statement VarintZigs. -/
import Derived.Test.YtmdnjcgfcofmiaaPu
namespace Go.Proofs.Ytmdnjcgfcofmiaa
open Go.RowKit
set_option linter.unusedVariables false

theorem zig_int (x : Int) (v : Int) (w : World) (hx : x = v) (h : (Lit.int .i64 v).wf = true) :
    Calls Try.prog 16 #[.int .i64 x] w fun e w' => e = .returned (.int .u64 (zigOf v : Nat)) ∧ w = w' := by
  rw [hx]; exact zig_any v w h

set_option maxRecDepth 100000 in
set_option maxHeartbeats 1000000 in
theorem walk_VarintZigs (a0 : Int) (a1 : Int) (w : World) (w0 : (Lit.int .i64 a0).wf = true) (w1 : (Lit.int .u64 a1).wf = true) :
    Calls Try.prog 5 #[.int .i64 a0, .int .u64 a1] w fun e w' => e = .returned (.bool true) ∧ Below w.heap.size w w' := by
  have b1 := wf_u64 w1
  have hb := wf_i64 w0
  have W0 := Lib.hid w0; clear w0 w1
  obtain ⟨u, rfl⟩ := Int.eq_ofNat_of_zero_le b1.1
  have hu : u < 18446744073709551616 := by omega
  clear b1
  obtain ⟨z, hz⟩ : ∃ z, z = zigOf a0 := ⟨_, rfl⟩
  obtain ⟨g, hg⟩ : ∃ g, g = zagOf u := ⟨_, rfl⟩
  have hz64 : z < 18446744073709551616 := by rw [hz]; exact zig_lt hb
  have hgb : -9223372036854775808 ≤ g ∧ g ≤ 9223372036854775807 := by rw [hg]; exact zag_wf hu
  have hgw := Lib.hid (show (Lit.int .i64 g).wf = true by simp [Lit.wf, IntKind.min, IntKind.max, IntKind.signed, IntKind.bits]; omega)
  have HZ := Lib.hid hz; have HG := Lib.hid hg
  clear hz hg
  have H1 := Lib.hid (zag_zig a0); have H2 := Lib.hid (zig_zag u)
  have HP := Lib.hid (@zig_pos a0); have HN := Lib.hid (@zig_neg a0)
  go_enter Try.func5, Try.ntmps5
  go_wp2_with fail
  (with_reducible refine (known_any _).mono ?_)
  rintro x w1 ⟨rfl, hk⟩
  have HC := Lib.hid hk; clear hk
  go_wp2_with fail
  (with_reducible refine (zig_any a0 _ W0.out).mono ?_)
  rintro x w2 ⟨rfl, rfl⟩
  rw [← HZ.out]
  go_wp2_with fail
  (with_reducible refine (rzig_any a0 _ W0.out).mono ?_)
  rintro x w2 ⟨rfl, rfl⟩
  rw [← HZ.out]
  go_wp2_with fail
  (with_reducible refine (zag_any u _ hu).mono ?_)
  rintro x w2 ⟨rfl, rfl⟩
  go_wp2_with fail
  (with_reducible refine (rzag_any u _ hu).mono ?_)
  rintro x w2 ⟨rfl, rfl⟩
  rw [← HG.out]
  go_wp2_with fail
  (with_reducible refine (zag_any z _ hz64).mono ?_)
  rintro x w2 ⟨rfl, rfl⟩
  rw [HZ.out, H1.out, ← HZ.out]
  go_wp2_with fail
  (with_reducible refine (zag_any u _ hu).mono ?_)
  rintro x w2 ⟨rfl, rfl⟩
  rw [← HG.out]
  go_wp2_with fail
  (with_reducible refine (zig_any g _ hgw.out).mono ?_)
  rintro x w2 ⟨rfl, rfl⟩
  rw [HG.out, H2.out]
  have HB := Lib.hid (HC.out.below (Nat.le_refl _) (by simp))
  go_wp2
  · go_ret
    have e : ((z : Int) == 2 * a0) = true := by
      have := HP.out (by omega)
      rw [← HZ.out] at this
      simpa using this
    exact ⟨by rw [← e]; rfl, HB.out⟩
  · go_ret
    exact ⟨rfl, HB.out⟩
  · go_ret
    have e : ((z : Int) == 2 * -a0 - 1) = true := by
      have := HN.out (by omega)
      rw [← HZ.out] at this
      rw [this, show -2 * a0 = 2 * -a0 by omega]
      simp
    exact ⟨by rw [← e]; rfl, HB.out⟩
  · go_ret
    exact ⟨rfl, HB.out⟩

end Go.Proofs.Ytmdnjcgfcofmiaa
