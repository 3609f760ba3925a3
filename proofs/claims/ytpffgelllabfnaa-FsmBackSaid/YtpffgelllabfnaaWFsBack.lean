/- FsmBack. -/
import Derived.Test.YtpffgelllabfnaaGg
namespace Go.Proofs.Ytpffgelllabfnaa
open Go.RowKit
set_option linter.unusedVariables false
set_option linter.unusedSimpArgs false

set_option maxRecDepth 100000 in
set_option maxHeartbeats 4000000 in
theorem walk_FsmBack (a0 : Option Addr) (len0 cap0 : Nat) (z0 : List Int) (w : World) (w0 : IsRow .i64 w a0 len0 cap0 z0) :
    Calls Try.prog 5 #[.slice a0 len0 cap0] w fun e w' => e = .returned (.bool true) ∧ Below w.heap.size w w' := by
  obtain ⟨ns, hS, hlen, hwf⟩ := w0.seenI
  have HS := Lib.hid hS; have HWF := Lib.hid hwf
  clear w0 hS hwf hlen
  have hmk := mk15 ns
  obtain ⟨l, hl⟩ : ∃ l, l = mk ns := ⟨_, rfl⟩
  rw [← hl] at hmk
  have HL := Lib.hid hl
  obtain ⟨T, hT⟩ : ∃ T, T = trs l := ⟨_, rfl⟩
  have HRL := Lib.hid (show ∀ sv wx, SeenF wx sv l → _ from fun sv wx hs => rleaves_any sv l wx hs (by have := hmk.le; omega) hmk.c)
  have HNX := Lib.hid (show ∀ sv wx, SeenF wx sv l → _ from fun sv wx hs => next_any sv l wx hs hmk.chk hmk.c hmk.n)
  have HCM := Lib.hid (show ∀ sv i j wx, SeenF wx sv l → _ from fun sv i j wx hs => common_any sv l i j wx hs hmk.chk hmk.c hmk.n)
  rw [← hT] at HNX HCM
  obtain ⟨N, hN⟩ : ∃ N, N = (leavesL l).length := ⟨_, rfl⟩
  have hN40 : N ≤ 40 := by have h := leavesTo_le l l.length; have := hmk.le; rw [hN]; unfold leavesL; omega
  have HTL := Lib.hid (show T.length = N by rw [hT, trs_length, hN])
  have HLF := Lib.hid (show ∀ k lf, (leavesL l)[k]? = some lf → lf.r = ((T.getD k []).length : Int) ∧ (T.getD k []).length ≤ 40 from fun k lf h => by
    obtain ⟨h1, h2⟩ := leaf_trs h
    rw [hT]; exact ⟨h1, by have := hmk.le; omega⟩)
  have HNN := Lib.hid hN
  have q1 : ((N : Int) != (N : Int)) = false := by simp
  clear hmk hl hT hN
  go_enter Try.func5, Try.ntmps5
  go_wp2_with fail
  refine (known15_any _).mono ?_
  rintro e wA ⟨rfl, hk⟩
  have HK1 := Lib.hid hk
  clear hk
  go_wp2_with fail
  refine (make_any _ ns _ (HS.out.keep HK1.out) HWF.out).mono ?_
  rintro e wB ⟨sv, rfl, hown, hk⟩
  rw [← HL.out] at hown
  have hSv := SeenF.own hown rfl
  obtain ⟨sa, sc, rfl⟩ := own_shape hown
  have HSF := Lib.hid hSv
  have HK2 := Lib.hid (HK1.out.trans hk (by simp))
  clear hown hSv hk
  go_wp2_with fail
  refine (HRL.out _ wB HSF.out).mono ?_
  rintro e wC ⟨fv, rfl, hsl, hk⟩
  obtain ⟨fo, fc, rfl, hfl1, hfl2⟩ := hsl.shape
  rw [← HNN.out] at hfl1 hsl ⊢
  have HSL := Lib.hid hsl
  have HK3 := Lib.hid (HK2.out.trans hk (by simp)); have HSF3 := Lib.hid (HSF.out.keep hk)
  clear hsl hk
  go_wp2_with fail
  refine (HNX.out _ wC HSF3.out).mono ?_
  rintro e wD ⟨nv', rfl, hr, hk⟩
  obtain ⟨no, nc, rfl, hn1, hn2⟩ := hr.shape
  rw [nextL_length, HTL.out] at hn1 hr ⊢
  have HR := Lib.hid hr
  have HK4 := Lib.hid (HK3.out.trans hk (by simp)); have HSF4 := Lib.hid (HSF3.out.keep hk); have HSL4 := Lib.hid (HSL.out.keep hk)
  clear hr hk
  go_wp2
  go_loopw [6] (fun x w' => ∃ k : Nat, x = .int .i64 (k : Int) ∧ k ≤ N ∧ Chg [] wD w') (fun x _ => N - (intOf x).toNat)
  case atStart => exact ⟨0, rfl, Nat.zero_le _, Chg.refl _ _⟩
  case round =>
    obtain ⟨k, rfl, hkN, hc⟩ := hrel
    obtain ⟨wq, rfl⟩ : ∃ wq, wq = wr := ⟨_, rfl⟩
    have HC := Lib.hid hc
    clear hc
    by_cases hlt : k < N
    · obtain ⟨lf, hlf⟩ : ∃ lf, (leavesL l)[k]? = some lf := ⟨_, List.getElem?_eq_getElem (by rw [← HNN.out]; exact hlt)⟩
      obtain ⟨fg, foff, rfl, hcs⟩ := SeenK.at HSL4.out (by omega)
      obtain ⟨-, b1, -, -⟩ := SeenL.cells hcs hlf
      obtain ⟨l1, l2⟩ := HLF.out k lf hlf
      rw [l1] at b1
      obtain ⟨ng, noff, rfl, hat⟩ := HR.out.get (by omega) (by rw [nextL_length, HTL.out])
      obtain ⟨xo, xc, x1, x2, x3, x4⟩ := hat k hlt
      rw [nextL_get T k (by rw [HTL.out]; exact hlt), nxRow_length] at x1 x2 x4
      obtain ⟨R, hR⟩ : ∃ R, R = (T.getD k []).length := ⟨_, rfl⟩
      rw [← hR] at b1 l2 x1 x2 x4
      obtain ⟨xg, xoff, rfl, hx⟩ := x4.at0 (by rw [nxRow_length, ← hR]) (by omega)
      have HX := Lib.hid (show ∀ r, r ≤ R → wD.cell? ⟨xg, xoff + r, none⟩ = some (.int .i64 (aft T k r : Nat)) from fun r hr => by
        have h := hx r (by omega)
        rwa [nxRow_get T k r (by rw [← hR]; exact hr)] at h)
      have HB1 := Lib.hid b1; have HX1 := Lib.hid x1
      have HSP := Lib.hid (show ∀ r, r ≤ R → _ from fun r hr => aft_spec T k r (by rw [HTL.out]; exact hlt) (by rw [← hR]; exact hr))
      have c1 := HC.out.cell b1 (by simp)
      have c2 := HC.out.cell x1 (by simp)
      have c3 := HC.out.cell (HX.out 0 (Nat.zero_le _)) (by simp)
      rw [aft_zero, Nat.add_zero] at c3
      have e1 : ((R : Int) + 1 != (R : Int) + 1) = false := by simp
      have e2 : (((k + 1 : Nat) : Int) != (k : Int) + 1) = false := by simp
      clear hlf hcs b1 l1 hat x1 x4 hx hR
      go_wp2_with fail
      go_region
      go_wp2
      clear c1 c2 c3
      go_loopw [7] (fun y w' => ∃ r : Nat, y = .int .i64 (r : Int) ∧ 1 ≤ r ∧ r ≤ R + 1 ∧ Chg [] wD w') (fun y _ => R + 1 - (intOf y).toNat)
      case atStart => exact ⟨1, rfl, by omega, by omega, HC.out.drew⟩
      case round =>
        obtain ⟨r, rfl, hr1, hr2, hcx⟩ := hrel
        have HCX := Lib.hid hcx
        have c1 := hcx.cell HB1.out (by simp)
        have c2 := hcx.cell HX1.out (by simp)
        clear hcx
        by_cases hrl : r ≤ R
        · have j1 : (r : Int) ≤ (R : Int) := by omega
          have c3 := HCX.out.cell (HX.out r hrl) (by simp)
          have hsp := HSP.out r hrl
          obtain ⟨kk, hkk⟩ : ∃ kk, kk = aft T k r := ⟨_, rfl⟩
          rw [← hkk] at c3 hsp
          clear hkk
          rcases hsp with e | ⟨s1, s2, s3⟩
          · have m1 : ((kk : Int) != (k : Int) + 1) = false := by simp; omega
            subst e
            go_wp2
            go_roundw
            case rel => exact ⟨r + 1, by go_num, by omega, by omega, HCX.out⟩
            case measure => simp [intOf]; omega
          · have m1 : ((kk : Int) != (k : Int) + 1) = true := by simp; omega
            have m2 : ¬ ((k : Int) < (kk : Int)) := by omega
            have m3 : ¬ ((kk : Int) < 0) := by omega
            have S2 := Lib.hid s2
            have HSF5 := Lib.hid (HSF4.out.keep HCX.out)
            rw [cmn_comm] at s2
            by_cases hk0 : kk = 0
            · subst hk0
              have S2 := Lib.hid (show r ≤ cmn T (0 : Int) (k : Int) from s2)
              clear s2 s3
              go_wp2_with fail
              refine (HCM.out _ _ _ wr HSF5.out).mono ?_
              rintro e w5 ⟨rfl, hk⟩
              have HK := Lib.hid hk
              clear hk
              obtain ⟨c, hcc⟩ : ∃ c, c = cmn T (0 : Int) (k : Int) := ⟨_, rfl⟩
              have m4 : ¬ ((c : Int) < (r : Int)) := by have := S2.out; omega
              rw [← hcc]
              clear hcc
              go_wp2
              go_roundw
              case rel => exact ⟨r + 1, by go_num, by omega, by omega, HCX.out.trans HK.out (by simp)⟩
              case measure => simp [intOf]; omega
            · have hp : 0 < kk := by omega
              have m5 : (0 : Int) < (kk : Int) := by omega
              have s4 := s3 (kk - 1) (by omega)
              rw [cmn_comm, show ((kk - 1 : Nat) : Int) = (kk : Int) - 1 by omega] at s4
              have S2 := Lib.hid s2
              have S4 := Lib.hid s4
              clear s2 s3 s4
              go_wp2_with fail
              refine (HCM.out _ _ _ wr HSF5.out).mono ?_
              rintro e w5 ⟨rfl, hk⟩
              have HK := Lib.hid hk
              have HSF6 := Lib.hid (HSF5.out.keep hk)
              clear hk
              obtain ⟨c, hcc⟩ : ∃ c, c = cmn T (kk : Int) (k : Int) := ⟨_, rfl⟩
              have m4 : ¬ ((c : Int) < (r : Int)) := by have := S2.out; omega
              rw [← hcc]
              clear hcc
              go_wp2_with fail
              refine (HCM.out _ _ _ w5 HSF6.out).mono ?_
              rintro e w6 ⟨rfl, hk⟩
              have HK6 := Lib.hid (HK.out.trans hk (by simp))
              clear hk
              obtain ⟨d, hdd⟩ : ∃ d, d = cmn T ((kk : Int) - 1) (k : Int) := ⟨_, rfl⟩
              have m6 : ¬ ((r : Int) ≤ (d : Int)) := by have := S4.out; omega
              rw [← hdd]
              clear hdd
              go_wp2
              go_roundw
              case rel => exact ⟨r + 1, by go_num, by omega, by omega, HCX.out.trans HK6.out (by simp)⟩
              case measure => simp [intOf]; omega
        · have j1 : ¬ ((r : Int) ≤ (R : Int)) := by omega
          go_wp2
          go_roundw
          case rel => exact ⟨k + 1, by go_num, by omega, HCX.out⟩
          case measure => simp [intOf]; omega
    · go_wp2
      go_ret
      exact ⟨rfl, (HK4.out.trans HC.out (by simp)).below (Nat.le_refl _) (by simp)⟩

end Go.Proofs.Ytpffgelllabfnaa
