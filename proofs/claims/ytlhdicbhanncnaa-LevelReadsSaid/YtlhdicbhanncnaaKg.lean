/- level: mixed. -/
import Derived.Test.YtlhdicbhanncnaaKe
namespace Go.Proofs.Ytlhdicbhanncnaa
open Go.RowKit
set_option linter.unusedVariables false
set_option linter.unusedSimpArgs false

set_option maxRecDepth 100000 in
set_option maxHeartbeats 200000 in
theorem mixed10_any (lv : Value) (l : List Nat) (w : World) (hS : Seen w lv (nv .i64 l)) (hl : l ≠ []) (hl2 : l.length ≤ 1000000) :
    Calls Try.prog 31 #[lv] w fun e w' => e = .returned (.int .i64 (mix l : Nat)) ∧ Chg [] w w' := by
  obtain ⟨ao, cap, rfl, hc1, hc2⟩ := hS.shape
  rw [nv_length] at hc1 hS
  rw [nv_length]
  have h0 := List.length_pos_iff.2 hl
  have HS := Lib.hid hS
  obtain ⟨n, hn⟩ : ∃ n, n = l.length := ⟨_, rfl⟩
  rw [← hn] at h0 hc1 hl2 HS ⊢
  have HN := Lib.hid hn
  clear hS hl hn hc2
  go_enter Try.func31, Try.ntmps31
  go_wp2_with fail
  refine wp_scope_pre 0 (fun a' w' => ∃ (j : Nat) (u4 u5 u6 u7 u8 u9 u10 u11 u12 u13 u14 u15 u16 u17 u18 u19 u20 : Value), j < n ∧ mixA l j = mix l ∧ a' = { tmps := #[.slice ao n cap, undef, .int .i64 0, .int .i64 (j : Int), u4, u5, u6, u7, u8, u9, u10, u11, u12, u13, u14, u15, u16, u17, u18, u19, u20], defers := [] } ∧ Chg [] w w') (fun a' _ => n - (intOf (a'.tmps.getD 3 undef)).toNat) rfl ?_ ?_
  · go_wp2
    exact ⟨0, _, _, _, _, _, _, _, _, _, _, _, _, _, _, _, _, _, h0, rfl, rfl, Chg.refl _ _⟩
  rintro a' wi ⟨j, u4, u5, u6, u7, u8, u9, u10, u11, u12, u13, u14, u15, u16, u17, u18, u19, u20, hj, hmx, rfl, hci⟩
  have HCI := Lib.hid hci
  have HMX := Lib.hid hmx
  clear hci hmx
  by_cases hjn : j + 8 < n
  · have hmin : min ((j : Int) + 8) (n : Int) = ((j + 8 : Nat) : Int) := by omega
    have hlt : decide (((j + 8 : Nat) : Int) < (n : Int)) = true := by simp; omega
    obtain ⟨ko, kc, hks, hkr⟩ := run_back_i (HS.out.keep HCI.out) HN.out.symm hc1 (j + 8) (by omega)
    have HA := Lib.hid (alike10_any _ (l.drop (j + 8)) wi hks (by rw [Ne, List.drop_eq_nil_iff]; have := HN.out; omega) (by rw [List.length_drop]; have := HN.out; omega))
    obtain ⟨q, hq⟩ : ∃ q, q = j + 8 := ⟨_, rfl⟩
    rw [← hq] at hmin hlt hjn hkr HA
    obtain ⟨z, hz⟩ : ∃ z, z = ak (l.drop q) := ⟨_, rfl⟩
    rw [← hz] at HA
    have HZ := Lib.hid hz; have HQ := Lib.hid hq
    clear hks hz hq
    by_cases hz0 : z = 0
    · have hb : ((z : Int) == 0) = true := by simp; omega
      have hr : nR (l.drop q) = true := by
        by_cases h : nR (l.drop q) = true
        · exact h
        · have h2 := HZ.out
          unfold ak at h2
          rw [if_neg h] at h2
          have := alk_pos (l.drop q) (by rw [Ne, List.drop_eq_nil_iff]; have := HN.out; omega)
          omega
      have E := Lib.hid (show mixA l q = mix l by
        rw [← HMX.out, mixA.eq_1 l j, dif_pos ⟨by have := HN.out; have := HQ.out; omega, by rw [← HQ.out]; exact hr⟩, HQ.out])
      clear hz0 hr
      go_wp2_with fail
      (with_reducible refine HA.out.mono ?_)
      rintro e w2 ⟨rfl, hc2⟩
      have HC2 := Lib.hid (HCI.out.trans hc2 (by simp))
      clear hc2
      go_wp2
      go_step3
      exact ⟨rfl, ⟨q, _, _, _, _, _, _, _, _, _, _, _, _, _, _, _, _, _, by omega, E.out, rfl, HC2.out⟩, by simp [intOf]; have := HQ.out; omega⟩
    · have hb : ((z : Int) == 0) = false := by simp; omega
      have hr : ¬ nR (l.drop q) = true := fun h => hz0 (by rw [HZ.out]; unfold ak; rw [if_pos h])
      have E := Lib.hid (show mix l = q by
        rw [← HMX.out, mixA.eq_1 l j, dif_neg (by rintro ⟨_, h⟩; rw [← HQ.out] at h; exact hr h), ← HN.out, ← HQ.out]; omega)
      clear hz0 hr
      go_wp2_with fail
      refine HA.out.mono ?_
      rintro e w2 ⟨rfl, hc2⟩
      have HC2 := Lib.hid (HCI.out.trans hc2 (by simp))
      clear hc2
      go_wp2
      simp only [Exit.jump]
      go_ret
      exact ⟨by rw [E.out]; rfl, HC2.out⟩
  · have hmin : min ((j : Int) + 8) (n : Int) = (n : Int) := by omega
    have hlt : decide ((n : Int) < (n : Int)) = false := by simp
    have E := Lib.hid (show mix l = n by
      rw [← HMX.out, mixA.eq_1 l j, dif_neg (by rintro ⟨h, _⟩; have := HN.out; omega), ← HN.out]; omega)
    go_wp2_with fail
    simp only [Exit.jump]
    go_ret
    exact ⟨by rw [E.out]; rfl, HCI.out⟩

end Go.Proofs.Ytlhdicbhanncnaa
