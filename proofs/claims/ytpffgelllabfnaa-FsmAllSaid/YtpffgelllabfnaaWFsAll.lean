/- FsmAll. -/
import Derived.Test.YtpffgelllabfnaaGk
namespace Go.Proofs.Ytpffgelllabfnaa
open Go.RowKit
set_option linter.unusedVariables false
set_option linter.unusedSimpArgs false

set_option maxRecDepth 100000 in
set_option maxHeartbeats 4000000 in
theorem walk_FsmAll (a0 : Option Addr) (len0 cap0 : Nat) (z0 : List Int) (a1 a2 : Int) (w : World) (w0 : IsRow .i64 w a0 len0 cap0 z0) (w1 : (Lit.int .i64 a1).wf = true) (w2 : (Lit.int .i64 a2).wf = true) :
    Calls Try.prog 3 #[.slice a0 len0 cap0, .int .i64 a1, .int .i64 a2] w fun e w' => e = .returned (.bool true) ∧ Below w.heap.size w w' := by
  obtain ⟨ns, hS, hlen, hwf⟩ := w0.seenI
  have HS := Lib.hid hS; have HWF := Lib.hid hwf
  clear w0 w1 w2 hS hwf hlen
  have hmk := mk15 ns
  obtain ⟨l, hl⟩ : ∃ l, l = mk ns := ⟨_, rfl⟩
  rw [← hl] at hmk
  have HL := Lib.hid hl
  obtain ⟨T, hT⟩ : ∃ T, T = trs l := ⟨_, rfl⟩
  have HRL := Lib.hid (show ∀ sv wx, SeenF wx sv l → _ from fun sv wx hs => rleaves_any sv l wx hs (by have := hmk.le; omega) hmk.c)
  have HNX := Lib.hid (show ∀ sv wx, SeenF wx sv l → _ from fun sv wx hs => next_any sv l wx hs hmk.chk hmk.c hmk.n)
  have HRN := Lib.hid (show ∀ sv wx, SeenF wx sv l → _ from fun sv wx hs => rnext15_any sv l wx hs (by have := hmk.le; omega) hmk.c)
  have HCM := Lib.hid (show ∀ sv i j wx, SeenF wx sv l → _ from fun sv i j wx hs => common_any sv l i j wx hs hmk.chk hmk.c hmk.n)
  have HRC := Lib.hid (show ∀ sv i j wx, SeenF wx sv l → _ from fun sv i j wx hs => rcommon15_any sv l i j wx hs (by have := hmk.le; omega) hmk.c)
  rw [← hT] at HNX HRN HCM HRC
  obtain ⟨N, hN⟩ : ∃ N, N = (leavesL l).length := ⟨_, rfl⟩
  have hN40 : N ≤ 40 := by have h := leavesTo_le l l.length; have := hmk.le; rw [hN]; unfold leavesL; omega
  have HTL := Lib.hid (show T.length = N by rw [hT, trs_length, hN])
  have HT40 := Lib.hid (show ∀ k, k < N → (T.getD k []).length ≤ 40 from fun k hk => by
    obtain ⟨h1, h2⟩ := leaf_trs (List.getElem?_eq_getElem (l := leavesL l) (i := k) (by rw [← hN]; exact hk))
    rw [hT]; have := hmk.le; omega)
  have HNN := Lib.hid hN
  have q1 : ((N : Int) != (N : Int)) = false := by simp
  clear hmk hl hT hN
  go_enter Try.func3, Try.ntmps3
  go_wp2_with fail
  refine (known15_any _).mono ?_
  rintro e wA ⟨rfl, hk⟩
  have HK1 := Lib.hid hk
  clear hk
  go_wp2_with fail
  refine (make_any _ ns _ (HS.out.keep HK1.out) HWF.out).mono ?_
  rintro e wB ⟨sv, rfl, hown, hk⟩
  rw [← HL.out] at hown
  have hSv := SeenF.own hown rfl
  obtain ⟨sa, sc, rfl⟩ := own_shape hown
  have HSF := Lib.hid hSv
  have HK2 := Lib.hid (HK1.out.trans hk (by simp))
  clear hown hSv hk
  go_wp2_with fail
  refine (HRL.out _ wB HSF.out).mono ?_
  rintro e wC ⟨fv, rfl, hsl, hk⟩
  obtain ⟨fo, fc, rfl, hfl1, hfl2⟩ := hsl.shape
  rw [← HNN.out]
  have HK3 := Lib.hid (HK2.out.trans hk (by simp)); have HSF3 := Lib.hid (HSF.out.keep hk)
  clear hsl hk hfl1
  go_wp2
  go_loopw [9] (fun x w' => ∃ a : Int, x = .int .i64 a ∧ -1 ≤ a ∧ a ≤ (N : Int) + 1 ∧ Chg [] wC w') (fun x _ => ((N : Int) + 1 - intOf x).toNat)
  case atStart => exact ⟨-1, rfl, by omega, by omega, Chg.refl _ _⟩
  case round =>
    obtain ⟨a, rfl, ha1, ha2, hc⟩ := hrel
    obtain ⟨wq, rfl⟩ : ∃ wq, wq = wr := ⟨_, rfl⟩
    have HC := Lib.hid hc
    clear hc
    by_cases hlt : a ≤ (N : Int)
    · go_wp2
      go_loopw [10] (fun x w' => ∃ b : Int, x = .int .i64 b ∧ -1 ≤ b ∧ b ≤ (N : Int) + 1 ∧ Chg [] wC w') (fun x _ => ((N : Int) + 1 - intOf x).toNat)
      case atStart => exact ⟨-1, rfl, by omega, by omega, HC.out⟩
      case round =>
        obtain ⟨b, rfl, hb1, hb2, hc⟩ := hrel
        have HCX := Lib.hid hc
        clear hc
        by_cases hlb : b ≤ (N : Int)
        · have HSX := Lib.hid (HSF3.out.keep HCX.out)
          go_wp2_with fail
          refine (HCM.out _ _ _ wr HSX.out).mono ?_
          rintro e w5 ⟨rfl, hk⟩
          have HK5 := Lib.hid (HCX.out.trans hk (by simp)); have HSY := Lib.hid (HSX.out.keep hk)
          clear hk
          go_wp2_with fail
          refine (HRC.out _ _ _ w5 HSY.out).mono ?_
          rintro e w6 ⟨rfl, hk⟩
          have HK6 := Lib.hid (HK5.out.trans hk (by simp))
          obtain ⟨c, hcc⟩ : ∃ c, c = cmn T a b := ⟨_, rfl⟩
          have m0 : ((c : Int) != (c : Int)) = false := by simp
          rw [← hcc]
          clear hk hcc
          go_wp2
          go_roundw
          case rel => exact ⟨b + 1, by go_num, by omega, by omega, HK6.out⟩
          case measure => simp [intOf]; omega
        · go_wp2
          go_roundw
          case rel => exact ⟨a + 1, by go_num, by omega, by omega, HCX.out⟩
          case measure => simp [intOf]; omega
    · go_wp2_with fail
      refine (HNX.out _ wq (HSF3.out.keep HC.out)).mono ?_
      rintro e w5 ⟨xv, rfl, hr, hk⟩
      obtain ⟨no, nc, rfl, hn1, hn2⟩ := hr.shape
      rw [nextL_length, HTL.out] at hn1 hr ⊢
      have HR := Lib.hid hr; have HK5 := Lib.hid (HC.out.trans hk (by simp))
      clear hr hk
      go_wp2_with fail
      refine (HRN.out _ w5 (HSF3.out.keep HK5.out)).mono ?_
      rintro e w6 ⟨yv, rfl, hr, hk⟩
      obtain ⟨mo, mc, rfl, hm1, hm2⟩ := hr.shape
      rw [nextL_length, HTL.out] at hm1 hr ⊢
      have HR2 := Lib.hid hr; have HK6 := Lib.hid (HK5.out.trans hk (by simp)); have HR6 := Lib.hid (HR.out.keep hk)
      clear hr hk
      go_wp2_with fail
      refine (HCM.out _ _ _ w6 (HSF3.out.keep HK6.out)).mono ?_
      rintro e w7 ⟨rfl, hk⟩
      have HK7 := Lib.hid (HK6.out.trans hk (by simp)); have HK67 := Lib.hid hk
      clear hk
      go_wp2_with fail
      refine (HRC.out _ _ _ w7 (HSF3.out.keep HK7.out)).mono ?_
      rintro e w8 ⟨rfl, hk⟩
      have HK8 := Lib.hid (HK7.out.trans hk (by simp)); have HK68 := Lib.hid (HK67.out.trans hk (by simp))
      obtain ⟨c, hcc⟩ : ∃ c, c = cmn T a1 a2 := ⟨_, rfl⟩
      have m0 : ((c : Int) != (c : Int)) = false := by simp
      rw [← hcc]
      clear hk hcc
      go_wp2
      go_loopw [13] (fun x w' => ∃ k : Nat, x = .int .i64 (k : Int) ∧ k ≤ N ∧ Chg [] w8 w') (fun x _ => N - (intOf x).toNat)
      case atStart => exact ⟨0, rfl, Nat.zero_le _, Chg.refl _ _⟩
      case round =>
        obtain ⟨k, rfl, hkN, hc⟩ := hrel
        obtain ⟨wz, rfl⟩ : ∃ wz, wz = wr := ⟨_, rfl⟩
        have HCZ := Lib.hid hc
        clear hc
        by_cases hkl : k < N
        · have g1 : (k : Int) < (N : Int) := by omega
          obtain ⟨ng, noff, rfl, hat⟩ := (HR6.out.keep HK68.out).get (by omega) (by rw [nextL_length, HTL.out])
          obtain ⟨xo, xc, x1, x2, x3, x4⟩ := hat k hkl
          obtain ⟨mg, moff, rfl, hat2⟩ := (HR2.out.keep HK68.out).get (by omega) (by rw [nextL_length, HTL.out])
          obtain ⟨yo, yc, z1, z2, z3, z4⟩ := hat2 k hkl
          rw [nextL_get T k (by rw [HTL.out]; exact hkl), nxRow_length] at x1 x2 x4 z1 z2 z4
          obtain ⟨X, hX⟩ : ∃ X, X = nxRow T k := ⟨_, rfl⟩
          obtain ⟨R, hRR⟩ : ∃ R, R = (T.getD k []).length + 1 := ⟨_, rfl⟩
          have hXl : X.length = R := by rw [hX, nxRow_length, hRR]
          have hR41 : R ≤ 41 := by have := HT40.out k hkl; omega
          have hR0 : 0 < R := by omega
          rw [← hRR] at x1 x2 x4 z1 z2 z4
          rw [← hX] at x4 z4
          obtain ⟨xg, xoff, rfl, hx⟩ := x4.at0 hXl hR0
          obtain ⟨yg, yoff, rfl, hy⟩ := z4.at0 hXl hR0
          have HXX := Lib.hid hx; have HYY := Lib.hid hy
          have HX1 := Lib.hid x1; have HZ1 := Lib.hid z1
          have y1 := HCZ.out.cell x1 (by simp)
          have y2 := HCZ.out.cell z1 (by simp)
          have m1 : ((R : Int) != (R : Int)) = false := by simp
          clear hat hat2 x1 z1 x4 z4 hx hy hX hRR
          go_wp2_with fail
          go_region
          go_wp2
          clear y1 y2
          go_loopw [14] (fun x w' => ∃ r : Nat, x = .int .i64 (r : Int) ∧ r ≤ R ∧ Chg [] w8 w') (fun x _ => R - (intOf x).toNat)
          case atStart => exact ⟨0, rfl, Nat.zero_le _, HCZ.out.drew⟩
          case round =>
            obtain ⟨r, rfl, hrR, hc⟩ := hrel
            have HCR := Lib.hid hc
            have y1 := hc.cell HX1.out (by simp)
            have y2 := hc.cell HZ1.out (by simp)
            clear hc
            by_cases hrl : r < R
            · have g2 : (r : Int) < (R : Int) := by omega
              have v1 := HCR.out.cell (HXX.out r hrl) (by simp)
              have v2 := HCR.out.cell (HYY.out r hrl) (by simp)
              obtain ⟨v, hv⟩ : ∃ v, v = X.getD r 0 := ⟨_, rfl⟩
              rw [← hv] at v1 v2
              have m2 : ((v : Int) != (v : Int)) = false := by simp
              clear hv
              go_wp2_with fail
              go_region
              go_wp2
              go_roundw
              case rel => exact ⟨r + 1, by go_num, by omega, HCR.out.drew⟩
              case measure => simp [intOf]; omega
            · have g2 : ¬ ((r : Int) < (R : Int)) := by omega
              go_wp2
              go_roundw
              case rel => exact ⟨k + 1, by go_num, by omega, HCR.out⟩
              case measure => simp [intOf]; omega
        · have g1 : ¬ ((k : Int) < (N : Int)) := by omega
          go_wp2
          go_ret
          exact ⟨rfl, ((HK3.out.trans HK8.out (by simp)).trans HCZ.out (by simp)).below (Nat.le_refl _) (by simp)⟩

end Go.Proofs.Ytpffgelllabfnaa
