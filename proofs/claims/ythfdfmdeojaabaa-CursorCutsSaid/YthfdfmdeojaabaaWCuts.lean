/- The walk of the statement CursorCuts: a number whose bytes lack is cut. -/
import Derived.Test.YthfdfmdeojaabaaWFails
namespace Go.Proofs.Ythfdfmdeojaabaa
open Go.RowKit
set_option linter.unusedVariables false

set_option maxRecDepth 100000 in
set_option maxHeartbeats 1000000 in
theorem walk_CursorCuts (a0 : Option Addr) (len0 cap0 : Nat) (z0 : List Int) (a1 : Int) (w : World) (w0 : IsRow .u8 w a0 len0 cap0 z0) (w1 : (Lit.int .i64 a1).wf = true) :
    Calls Try.prog 6 #[.slice a0 len0 cap0, .int .i64 a1] w fun e w' => e = .returned (.bool true) ∧ Below w.heap.size w w' := by
  obtain ⟨zs, hS, rfl, hwf, hzt⟩ := w0.bytes; clear hzt
  have b1 := Lib.hid (wf_i64 w1)
  clear w0 w1
  have HS := Lib.hid hS; clear hS
  by_cases hlen : 7 < zs.length
  · go_enter Try.func6, Try.ntmps6
    go_wp2_with fail
    refine (known_any _).mono ?_
    rintro x w1 ⟨rfl, hk⟩
    have HK := Lib.hid hk; clear hk
    go_wp2
    go_ret
    exact ⟨rfl, HK.out.below (Nat.le_refl _) (by simp)⟩
  · have h8 : (1 : Int) ≤ 8 - (zs.length : Int) := by omega
    have h8' : 8 - (zs.length : Int) ≤ 4611686018427387904 := by omega
    have e1 : 0 ≤ a1 % (8 - (zs.length : Int)) := Int.emod_nonneg _ (by omega)
    have e2 : a1 % (8 - (zs.length : Int)) < 8 - (zs.length : Int) := Int.emod_lt_of_pos _ (by omega)
    have hw : widthOf ((zs.length : Int) + 1 + a1 % (8 - (zs.length : Int))) = (zs.length : Int) + 1 + a1 % (8 - (zs.length : Int)) := by
      unfold widthOf; rw [if_neg (by omega)]
    have hcut : (zs.length : Int) < widthOf ((zs.length : Int) + 1 + a1 % (8 - (zs.length : Int))) := by rw [hw]; omega
    have HW := Lib.hid hcut; clear hw hcut
    have hlz : zs.length ≤ 140737488355328 := by omega
    go_enter Try.func6, Try.ntmps6
    go_wp2_with fail
    refine (known_any _).mono ?_
    rintro x w1 ⟨rfl, hk⟩
    have HK := Lib.hid hk; clear hk
    go_wp2_with fail
    refine (within_any a1 _ _ h8 h8' b1.out.1 b1.out.2).mono ?_
    rintro x w2 ⟨rfl, rfl⟩
    go_wp2_with fail
    refine (new_any _ zs _ hlz (HS.out.keep HK.out)).mono ?_
    rintro x w2 ⟨r, rfl, g1, g2, g3⟩
    have C2 := Lib.hid (HK.out.trans g1 (by simp)); clear g1
    have hr : w.heap.size ≤ r := Nat.le_trans HK.out.size g2
    have R2 := Lib.hid g3; clear g3 g2
    go_wp2_with fail
    refine (get_no r _ 0 _ zs hlz R2.out (fun h => absurd rfl h) HW.out).mono ?_
    rintro x w3 ⟨rfl, g1, g3⟩
    have C3 := Lib.hid (C2.out.trans (T := [r]) g1 (by simp; exact hr)); clear g1
    rw [if_pos rfl] at g3
    have R3 := Lib.hid g3; clear g3
    go_wp2_with fail
    refine (end_any r [] _ _ (by simp) R3.out).mono ?_
    rw [if_pos rfl]
    rintro x w5 ⟨rfl, rfl⟩
    go_wp2_with fail
    refine (left_any r [] _ _ (by simp) R3.out).mono ?_
    rintro x w5 ⟨rfl, rfl⟩
    go_wp2_with fail
    refine (take_no r 1 _ _ [] (by simp) R3.out (fun _ => rfl) (by decide)).mono ?_
    rintro x w4 ⟨rfl, g1, g3⟩
    have C4 := Lib.hid (C3.out.trans (T := [r]) g1 (by simp; exact hr)); clear g1
    rw [if_neg (by decide)] at g3
    have R4 := Lib.hid g3; clear g3
    go_wp2_with fail
    refine (get_yes r 0 _ 0 _ [] (by simp) (by simp [Wf]) R4.out rfl (by simp)).mono ?_
    rintro x w5 ⟨rfl, g1, g3⟩
    have C5 := Lib.hid (C4.out.trans (T := [r]) g1 (by simp; exact hr)); clear g1 g3
    rw [show num (List.take 0 []) = 0 from rfl]
    go_wp2
    go_ret
    exact ⟨rfl, C5.out.below (Nat.le_refl _) (by simp)⟩

end Go.Proofs.Ythfdfmdeojaabaa
