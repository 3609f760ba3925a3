/- The walk of the statement CursorFails: the first error stays. -/
import Derived.Test.YthfdfmdeojaabaaTake
namespace Go.Proofs.Ythfdfmdeojaabaa
open Go.RowKit
set_option linter.unusedVariables false

theorem wf_i64 {a : Int} (h : (Lit.int .i64 a).wf = true) : -9223372036854775808 ≤ a ∧ a ≤ 9223372036854775807 := by
  simp [Lit.wf, IntKind.min, IntKind.max, IntKind.signed, IntKind.bits] at h
  omega

theorem wf_u8 {a : Int} (h : (Lit.int .u8 a).wf = true) : 0 ≤ a ∧ a < 256 := by
  simp [Lit.wf, IntKind.min, IntKind.max, IntKind.signed, IntKind.bits] at h
  omega

/-- A []byte that came in: what it reads as. -/
theorem IsRow.bytes {w : World} {a : Option Addr} {len cap : Nat} {z : List Int} (h : IsRow .u8 w a len cap z) : ∃ zs : List Int, Seen w (.slice a len cap) (bys zs) ∧ len = zs.length ∧ Wf zs ∧ zs = z.take len := by
  obtain ⟨h1, h2⟩ := h.seen
  exact ⟨z.take len, h1, h2.symm, fun y hy => wf_u8 (h.wf y (List.mem_of_mem_take hy)), rfl⟩

set_option maxRecDepth 100000 in
set_option maxHeartbeats 1000000 in
theorem walk_CursorFails (a0 : Option Addr) (len0 cap0 : Nat) (z0 : List Int) (a1 : Int) (a2 : Int) (w : World) (w0 : IsRow .u8 w a0 len0 cap0 z0) (w1 : (Lit.int .i64 a1).wf = true) (w2 : (Lit.int .i64 a2).wf = true) :
    Calls Try.prog 7 #[.slice a0 len0 cap0, .int .i64 a1, .int .i64 a2] w fun e w' => e = .returned (.bool true) ∧ Below w.heap.size w w' := by
  obtain ⟨zs, hS, rfl, hwf, hzt⟩ := w0.bytes; clear hzt
  have b1 := Lib.hid (wf_i64 w1)
  have b2 := Lib.hid (wf_i64 w2)
  clear w0 w1 w2
  have HS := Lib.hid hS; clear hS
  by_cases hlen : 50 < zs.length
  · go_enter Try.func7, Try.ntmps7
    go_wp2_with fail
    refine (known_any _).mono ?_
    rintro x w1 ⟨rfl, hk⟩
    have HK := Lib.hid hk; clear hk
    go_wp2
    go_ret
    exact ⟨rfl, HK.out.below (Nat.le_refl _) (by simp)⟩
  · have e1 : 0 ≤ a1 % 15 := by omega
    have e2 : a1 % 15 < 15 := by omega
    have e3 : 0 ≤ a2 % 15 := by omega
    have e4 : a2 % 15 < 15 := by omega
    have hlz : zs.length ≤ 140737488355328 := by omega
    go_enter Try.func7, Try.ntmps7
    go_wp2_with fail
    refine (known_any _).mono ?_
    rintro x w1 ⟨rfl, hk⟩
    have HK := Lib.hid hk; clear hk
    go_wp2_with fail
    refine (within_any a1 15 _ (by decide) (by decide) b1.out.1 b1.out.2).mono ?_
    rintro x w2 ⟨rfl, rfl⟩
    go_wp2_with fail
    refine (within_any a2 15 _ (by decide) (by decide) b2.out.1 b2.out.2).mono ?_
    rintro x w2 ⟨rfl, rfl⟩
    go_wp2_with fail
    refine (new_any _ zs _ hlz (HS.out.keep HK.out)).mono ?_
    rintro x w2 ⟨r, rfl, g1, g2, g3⟩
    have C2 := Lib.hid (HK.out.trans g1 (by simp)); clear g1
    have hr : w.heap.size ≤ r := Nat.le_trans HK.out.size g2
    have R2 := Lib.hid g3; clear g3 g2
    go_wp2_with fail
    refine (fail_kept r 0 0 _ zs R2.out (.inr rfl)).mono ?_
    rintro x w3 ⟨rfl, rfl⟩
    go_wp2_with fail
    refine (left_any r zs 0 _ hlz R2.out).mono ?_
    rintro x w3 ⟨rfl, rfl⟩
    go_wp2_with fail
    refine (fail_set r _ _ zs R2.out (by omega)).mono ?_
    rintro x w3 ⟨rfl, g1, g3⟩
    have C3 := Lib.hid (C2.out.trans (T := [r]) g1 (by simp; exact hr)); clear g1
    have R3 := Lib.hid g3; clear g3
    go_wp2_with fail
    refine (fail_kept r _ _ _ [] R3.out (.inl (by omega))).mono ?_
    rintro x w4 ⟨rfl, rfl⟩
    go_wp2_with fail
    refine (get_no r 8 _ _ [] (by simp) R3.out (fun _ => rfl) (by decide)).mono ?_
    rintro x w4 ⟨rfl, g1, g3⟩
    have C4 := Lib.hid (C3.out.trans (T := [r]) g1 (by simp; exact hr)); clear g1
    rw [if_neg (by omega)] at g3
    have R4 := Lib.hid g3; clear g3
    go_wp2_with fail
    refine (end_any r [] _ _ (by simp) R4.out).mono ?_
    rw [if_pos rfl]
    rintro x w5 ⟨rfl, rfl⟩
    go_wp2_with fail
    refine (left_any r [] _ _ (by simp) R4.out).mono ?_
    rintro x w5 ⟨rfl, rfl⟩
    go_wp2
    go_ret
    exact ⟨rfl, C4.out.below (Nat.le_refl _) (by simp)⟩

end Go.Proofs.Ythfdfmdeojaabaa
