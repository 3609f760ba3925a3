/- Contracts: size, and what reads a number: length, join, Get; the reference's Get. -/
import Derived.Test.YtohgnbgijleoaaaDoorPg
namespace Go.Proofs.YtohgnbgijleoaaaDoor
open Go.RowKit
set_option linter.unusedVariables false

set_option maxRecDepth 100000 in
set_option maxHeartbeats 1000000 in
theorem length_any (bv : Value) (l : List Nat) (w : World) (hS : Seen w bv (nv .u8 l)) (hb : ∀ x ∈ l, x < 2 ^ 8) :
    Calls Tryd.prog 95 #[bv] w fun e w' => e = .returned (.tuple #[.int .i64 ((gl 0 l).1 : Nat), .int .i64 ((gl 0 l).2 : Nat)]) ∧ Chg [] w w' := by
  obtain ⟨ao, cap, rfl, hc1, hc2⟩ := hS.shape
  rw [nv_length] at hc1 hS
  rw [nv_length]
  have HS := Lib.hid hS; have HB := Lib.hid hb; clear hS hb
  unfold maxLen at hc2
  go_enter Tryd.func95, Tryd.ntmps95
  go_wp2_with fail
  refine wp_scope_head 0 (fun a' w' => ∃ (j : Nat) (u4 u5 u6 u7 u8 u9 u10 u11 u12 u13 u14 u15 u16 u17 u18 u19 u20 u21 u22 u23 u24 u25 u26 u27 u28 u29 u30 u31 u32 u33 u34 u35 u36 u37 u38 : Value), j ≤ l.length ∧ j ≤ 9 ∧ (∀ i, i < j → 128 ≤ l.getD i 0) ∧ a' = { tmps := #[.slice ao l.length cap, undef, .int .i64 (j : Int), .int .i64 0, u4, u5, u6, u7, u8, u9, u10, u11, u12, u13, u14, u15, u16, u17, u18, u19, u20, u21, u22, u23, u24, u25, u26, u27, u28, u29, u30, u31, u32, u33, u34, u35, u36, u37, u38], defers := [] } ∧ Chg [] w w') (fun a' _ => l.length - (intOf (a'.tmps.getD 2 undef)).toNat) rfl ?_ ?_
  · exact ⟨0, _, _, _, _, _, _, _, _, _, _, _, _, _, _, _, _, _, _, _, _, _, _, _, _, _, _, _, _, _, _, _, _, _, _, _, Nat.zero_le _, by omega, by omega, rfl, Chg.refl _ _⟩
  rintro a' wi ⟨j, u4, u5, u6, u7, u8, u9, u10, u11, u12, u13, u14, u15, u16, u17, u18, u19, u20, u21, u22, u23, u24, u25, u26, u27, u28, u29, u30, u31, u32, u33, u34, u35, u36, u37, u38, hj, h9, hall, rfl, hci⟩
  have HCI := Lib.hid hci; have HA := Lib.hid hall; clear hci hall
  by_cases hlt : j = l.length
  · have hb : ((j : Int) == (l.length : Int)) = true := by simp [hlt]
    have E := Lib.hid (gl_cut l (by omega) (by rw [← hlt]; exact HA.out))
    clear hlt
    go_wp2
    simp only [Exit.jump]
    go_ret2
    exact ⟨by rw [E.out]; rfl, HCI.out⟩
  have hb : ((j : Int) == (l.length : Int)) = false := by simp; omega
  have hjl : j < l.length := by omega
  obtain ⟨x, rfl, hx0⟩ := (HS.out.keep HCI.out).at rfl (by omega)
  have hx := hx0 j hjl
  clear hx0
  obtain ⟨s, hs⟩ : ∃ s, s = l.getD j 0 := ⟨_, rfl⟩
  rw [← hs] at hx
  have hs8 : s < 256 := by rw [hs]; exact HB.out _ (getD_mem hjl)
  have HSJ := Lib.hid hs
  clear hs hlt
  by_cases hov : j = 9 ∧ 1 < s
  · have hb9 : ((j : Int) == 9) = true := by simp; omega
    have hb1 : decide ((1 : Int) < (s : Int)) = true := by simp; omega
    have E := Lib.hid (gl_over l (by omega) (by rw [← hov.1]; exact HA.out) (by rw [← hov.1, ← HSJ.out]; exact hov.2))
    clear hov
    go_wp2
    simp only [Exit.jump]
    go_ret2
    exact ⟨by rw [E.out]; rfl, HCI.out⟩
  have hpick : ((j : Int) == 9) = false ∨ ((j : Int) == 9) = true ∧ decide ((1 : Int) < (s : Int)) = false := by
    by_cases h : j = 9
    · right; simp; omega
    · left; simp; omega
  by_cases h128 : 128 ≤ s
  · have hj9 : j < 9 := by omega
    have hb9 : ((j : Int) == 9) = false := by simp; omega
    have hb8 : decide ((128 : Int) ≤ (s : Int)) = true := by simp; omega
    have hall2 := Lib.hid (show ∀ i, i < j + 1 → 128 ≤ l.getD i 0 from fun i hi => by
      by_cases h : i = j
      · rw [h, ← HSJ.out]; exact h128
      · exact HA.out i (by omega))
    clear hpick hov
    go_wp2
    go_step3
    exact ⟨rfl, ⟨j + 1, _, _, _, _, _, _, _, _, _, _, _, _, _, _, _, _, _, _, _, _, _, _, _, _, _, _, _, _, _, _, _, _, _, _, _, by omega, by omega, hall2.out, rfl, HCI.out⟩, by simp [intOf]; omega⟩
  have hb8 : decide ((128 : Int) ≤ (s : Int)) = false := by simp; omega
  by_cases h0 : s = 0 ∧ 0 < j
  · have E := Lib.hid (gl_bad l j hjl h0.2 h9 HA.out (by rw [← HSJ.out]; exact h0.1))
    obtain ⟨h0, h0j⟩ := h0
    clear hov
    subst h0
    have hb0 : decide (0 < j) = true := by simpa using h0j
    rcases hpick with hb9 | ⟨hb9, hb1⟩
    · go_wp2
      simp only [Exit.jump]
      go_ret2
      exact ⟨by rw [E.out]; rfl, HCI.out⟩
    · go_wp2
      simp only [Exit.jump]
      go_ret2
      exact ⟨by rw [E.out]; rfl, HCI.out⟩
  · have E := Lib.hid (gl_ok l j hjl h9 HA.out (by rw [← HSJ.out]; omega) (by rw [← HSJ.out]; exact hov) (by rw [← HSJ.out]; exact h0))
    have hpk0 : ((s : Int) == 0) = false ∨ ((s : Int) == 0) = true ∧ decide (0 < j) = false := by
      by_cases h : s = 0
      · right; simp; omega
      · left; simp; omega
    clear hov h0
    rcases hpick with hb9 | ⟨hb9, hb1⟩ <;> rcases hpk0 with hb0 | ⟨hb0, hbj⟩
    all_goals
      go_wp2
      simp only [Exit.jump]
      go_ret2
      exact ⟨by rw [E.out]; rfl, HCI.out⟩

end Go.Proofs.YtohgnbgijleoaaaDoor
