/- The walk of the statement CursorTwo: two readers of the same bytes. -/
import Derived.Test.YthfdfmdeojaabaaWFails
namespace Go.Proofs.Ythfdfmdeojaabaa
open Go.RowKit
set_option linter.unusedVariables false

set_option maxRecDepth 100000 in
set_option maxHeartbeats 1000000 in
theorem walk_CursorTwo (a0 : Option Addr) (len0 cap0 : Nat) (z0 : List Int) (a1 : Int) (w : World) (w0 : IsRow .u8 w a0 len0 cap0 z0) (w1 : (Lit.int .i64 a1).wf = true) :
    Calls Try.prog 8 #[.slice a0 len0 cap0, .int .i64 a1] w fun e w' => e = .returned (.bool true) ∧ Below w.heap.size w w' := by
  obtain ⟨zs, hS, rfl, hwf, hzt⟩ := w0.bytes; clear hzt
  have b1 := Lib.hid (wf_i64 w1)
  clear w0 w1
  have HS := Lib.hid hS; clear hS
  by_cases hlen : zs.length < 2
  · go_enter Try.func8, Try.ntmps8
    go_wp2_with fail
    refine (known_any _).mono ?_
    rintro x w1 ⟨rfl, hk⟩
    have HK := Lib.hid hk; clear hk
    go_wp2
    go_ret
    exact ⟨rfl, HK.out.below (Nat.le_refl _) (by simp)⟩
  by_cases hlen2 : 50 < zs.length
  · go_enter Try.func8, Try.ntmps8
    go_wp2_with fail
    refine (known_any _).mono ?_
    rintro x w1 ⟨rfl, hk⟩
    have HK := Lib.hid hk; clear hk
    go_wp2
    go_ret
    exact ⟨rfl, HK.out.below (Nat.le_refl _) (by simp)⟩
  have h8 : (1 : Int) ≤ (zs.length : Int) - 1 := by omega
  have h8' : (zs.length : Int) - 1 ≤ 4611686018427387904 := by omega
  have e1 : 0 ≤ a1 % ((zs.length : Int) - 1) := Int.emod_nonneg _ (by omega)
  have e2 : a1 % ((zs.length : Int) - 1) < (zs.length : Int) - 1 := Int.emod_lt_of_pos _ (by omega)
  obtain ⟨k, hk⟩ : ∃ k : Nat, 1 + a1 % ((zs.length : Int) - 1) = (k : Int) := ⟨(1 + a1 % ((zs.length : Int) - 1)).toNat, by omega⟩
  have hk1 : 1 ≤ k := by omega
  have hk2 : k < zs.length := by omega
  have hlz : zs.length ≤ 140737488355328 := by omega
  have HKN := Lib.hid hk; clear hk
  go_enter Try.func8, Try.ntmps8
  go_wp2_with fail
  refine (known_any _).mono ?_
  rintro x w1 ⟨rfl, hk⟩
  have HK := Lib.hid hk; clear hk
  go_wp2_with fail
  refine (new_any _ zs _ hlz (HS.out.keep HK.out)).mono ?_
  rintro x w2 ⟨r, rfl, g1, g2, g3⟩
  have C2 := Lib.hid (HK.out.trans g1 (by simp)); clear g1
  have hr : w.heap.size ≤ r := Nat.le_trans HK.out.size g2
  have R2 := Lib.hid g3; clear g3 g2
  go_wp2_with fail
  refine (new_any _ zs _ hlz (HS.out.keep C2.out)).mono ?_
  rintro x w3 ⟨s, rfl, g1, g2, g3⟩
  have R3 := Lib.hid (R2.out.keep0 g1)
  have h23 := g1.size
  have hrs : r ≠ s := by have := R2.out.lt; omega
  have C3 := Lib.hid (C2.out.trans g1 (by simp)); clear g1
  have hs : w.heap.size ≤ s := Nat.le_trans C2.out.size g2
  have S3 := Lib.hid g3; clear g3 g2
  go_wp2_with fail
  refine (within_any a1 _ _ h8 h8' b1.out.1 b1.out.2).mono ?_
  rintro x w4 ⟨rfl, rfl⟩
  go_wp2_with fail
  rw [HKN.out]
  refine (take_any r k k 0 _ zs hlz R3.out (by omega) (by omega)).mono ?_
  rintro x w4 ⟨v, rfl, g1, g2, g3⟩
  have HRS := Lib.hid hrs; clear hrs
  obtain ⟨ao, cap, hv⟩ := own_shape g3
  have g4 := g3.2
  rcases g4 with ⟨rfl, h0⟩ | ⟨g, cap', cur, rfl, hg, hcur, _⟩
  · omega
  have hz1 : zs.take k ≠ [] := by
    intro h; have := congrArg List.length h; rw [List.length_take, List.length_nil] at this; omega
  obtain ⟨y, ys, hy⟩ : ∃ y ys, zs.take k = y :: ys := by
    rcases hzz : zs.take k with _ | ⟨y, ys⟩
    · exact absurd hzz hz1
    · exact ⟨y, ys, rfl⟩
  have c0 : w4.cell? ⟨g, 0, none⟩ = some (.int .u8 y) := by rw [g3.cellAt 0 (by rw [Nat.mul_one]; exact hk1), hy]; rfl
  have f0 := g3.frozenAt 0
  have hw12 := C2.out.size
  have hrlt := R3.out.lt
  have hc5 : Chg [g] w4 (w4.setCell ⟨g, 0, none⟩ (.int .u8 ((y + 1) % 256))) := (Chg.refl _ _).setCell (by simp) _
  have hR5 := g2.keepHigh hc5 (Nat.le_trans h23 hg) (by omega)
  have hCC : Chg [r] w3 (w4.setCell ⟨g, 0, none⟩ (.int .u8 ((y + 1) % 256))) := g1.setCell (p := ⟨g, 0, none⟩) (.inr hg) _
  have hS5 := S3.out.keep1 R3.out hCC (Ne.symm HRS.out)
  have hC5 := C3.out.trans (T := [r]) hCC (by simp; exact hr)
  have R5 := Lib.hid hR5; have S5 := Lib.hid hS5; have C5 := Lib.hid hC5
  clear g1 g2 g3 hcur hc5 hR5 hCC hS5 hC5 hz1 hw12 hrlt
  have HY := Lib.hid hy; clear hy
  go_wp2_with fail
  refine (take_any s zs.length zs.length 0 _ zs hlz S5.out (by omega) (Nat.le_refl _)).mono ?_
  rintro x w6 ⟨v, rfl, g1, g2, g3⟩
  have hsd := reads_of_own g3
  rw [List.take_of_length_le (Nat.le_refl _)] at hsd
  have R6 := Lib.hid (R5.out.keep1 S5.out g1 HRS.out)
  have S6 := Lib.hid g2
  have C6 := Lib.hid (C5.out.trans (T := [s]) g1 (by simp; exact hs))
  have hdl : (zs.drop k).length = zs.length - k := by simp
  have hdz : (zs.drop k).length ≤ 140737488355328 := by omega
  have hde : zs.drop zs.length = [] := by simp
  have HDE := Lib.hid hde
  have HDL := Lib.hid hdl
  clear hde hdl
  have cv1 := run_convert_seen (P := Try.prog) hsd.seen 22 9 5 Try.underlying22 Try.underlying5 Try.underlying9
  have cv2 := run_convert_seen (P := Try.prog) (HS.out.keep C6.out) 22 9 5 Try.underlying22 Try.underlying5 Try.underlying9
  clear g1 g2 g3 hsd
  go_wp2_with fail
  refine (left_any r _ 0 _ hdz R6.out).mono ?_
  rintro x w7 ⟨rfl, rfl⟩
  rw [HDL.out]
  go_wp2_with fail
  refine (end_any s _ 0 _ (by rw [HDE.out]; simp) S6.out).mono ?_
  rw [if_pos HDE.out]
  rintro x w7 ⟨rfl, rfl⟩
  go_wp2
  go_ret
  exact ⟨rfl, C6.out.below (Nat.le_refl _) (by simp)⟩

end Go.Proofs.Ythfdfmdeojaabaa
