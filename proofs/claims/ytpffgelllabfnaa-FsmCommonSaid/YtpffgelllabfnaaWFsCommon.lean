/- FsmCommon. -/
import Derived.Test.YtpffgelllabfnaaGg
namespace Go.Proofs.Ytpffgelllabfnaa
open Go.RowKit
set_option linter.unusedVariables false
set_option linter.unusedSimpArgs false

set_option maxRecDepth 100000 in
set_option maxHeartbeats 4000000 in
theorem walk_FsmCommon (a0 : Option Addr) (len0 cap0 : Nat) (z0 : List Int) (w : World) (w0 : IsRow .i64 w a0 len0 cap0 z0) :
    Calls Try.prog 6 #[.slice a0 len0 cap0] w fun e w' => e = .returned (.bool true) ∧ Below w.heap.size w w' := by
  obtain ⟨ns, hS, hlen, hwf⟩ := w0.seenI
  have HS := Lib.hid hS; have HWF := Lib.hid hwf
  clear w0 hS hwf hlen
  have hmk := mk15 ns
  obtain ⟨l, hl⟩ : ∃ l, l = mk ns := ⟨_, rfl⟩
  rw [← hl] at hmk
  have HL := Lib.hid hl
  obtain ⟨T, hT⟩ : ∃ T, T = trs l := ⟨_, rfl⟩
  have HRL := Lib.hid (show ∀ sv wx, SeenF wx sv l → _ from fun sv wx hs => rleaves_any sv l wx hs (by have := hmk.le; omega) hmk.c)
  have HCM := Lib.hid (show ∀ sv i j wx, SeenF wx sv l → _ from fun sv i j wx hs => common_any sv l i j wx hs hmk.chk hmk.c hmk.n)
  rw [← hT] at HCM
  obtain ⟨N, hN⟩ : ∃ N, N = (leavesL l).length := ⟨_, rfl⟩
  have hN40 : N ≤ 40 := by have h := leavesTo_le l l.length; have := hmk.le; rw [hN]; unfold leavesL; omega
  have HTL := Lib.hid (show T.length = N by rw [hT, trs_length, hN])
  have HLF := Lib.hid (show ∀ k lf, (leavesL l)[k]? = some lf → lf.r = ((T.getD k []).length : Int) ∧ (T.getD k []).length ≤ 40 from fun k lf h => by
    obtain ⟨h1, h2⟩ := leaf_trs h
    rw [hT]; exact ⟨h1, by have := hmk.le; omega⟩)
  have HNN := Lib.hid hN
  have q1 : ((N : Int) != (N : Int)) = false := by simp
  clear hmk hl hT hN
  go_enter Try.func6, Try.ntmps6
  go_wp2_with fail
  refine (known15_any _).mono ?_
  rintro e wA ⟨rfl, hk⟩
  have HK1 := Lib.hid hk
  clear hk
  go_wp2_with fail
  refine (make_any _ ns _ (HS.out.keep HK1.out) HWF.out).mono ?_
  rintro e wB ⟨sv, rfl, hown, hk⟩
  rw [← HL.out] at hown
  have hSv := SeenF.own hown rfl
  obtain ⟨sa, sc, rfl⟩ := own_shape hown
  have HSF := Lib.hid hSv
  have HK2 := Lib.hid (HK1.out.trans hk (by simp))
  clear hown hSv hk
  go_wp2_with fail
  refine (HRL.out _ wB HSF.out).mono ?_
  rintro e wC ⟨fv, rfl, hsl, hk⟩
  obtain ⟨fo, fc, rfl, hfl1, hfl2⟩ := hsl.shape
  rw [← HNN.out] at hfl1 hsl ⊢
  have HSL := Lib.hid hsl
  have HK3 := Lib.hid (HK2.out.trans hk (by simp)); have HSF3 := Lib.hid (HSF.out.keep hk)
  clear hsl hk
  go_wp2
  go_loopw [5] (fun x w' => ∃ k : Nat, x = .int .i64 (k : Int) ∧ k ≤ N ∧ Chg [] wC w') (fun x _ => N - (intOf x).toNat)
  case atStart => exact ⟨0, rfl, Nat.zero_le _, Chg.refl _ _⟩
  case round =>
    obtain ⟨k, rfl, hkN, hc⟩ := hrel
    obtain ⟨wq, rfl⟩ : ∃ wq, wq = wr := ⟨_, rfl⟩
    have HC := Lib.hid hc
    clear hc
    by_cases hlt : k < N
    · obtain ⟨lf, hlf⟩ : ∃ lf, (leavesL l)[k]? = some lf := ⟨_, List.getElem?_eq_getElem (by rw [← HNN.out]; exact hlt)⟩
      obtain ⟨fg, foff, rfl, hcs⟩ := SeenK.at HSL.out (by omega)
      have HB1 := Lib.hid (show ∀ j, j < N → wC.cell? ⟨fg, foff + j * 4 + 1, none⟩ = some (.int .i64 ((T.getD j []).length : Nat)) from fun j hj => by
        obtain ⟨lf, hlf⟩ : ∃ lf, (leavesL l)[j]? = some lf := ⟨_, List.getElem?_eq_getElem (by rw [← HNN.out]; exact hj)⟩
        rw [← (HLF.out j lf hlf).1]
        exact (SeenL.cells hcs hlf).2.1)
      have hR40 := (HLF.out k lf hlf).2
      obtain ⟨R, hR⟩ : ∃ R, R = (T.getD k []).length := ⟨_, rfl⟩
      have HRR := Lib.hid hR
      rw [← hR] at hR40
      have hb : wC.cell? ⟨fg, foff + k * 4 + 1, none⟩ = some (.int .i64 (R : Int)) := by rw [hR]; exact HB1.out k hlt
      have HQ := Lib.hid (show ∀ wx, Chg [] wq wx → wx.cell? ⟨fg, foff + k * 4 + 1, none⟩ = some (.int .i64 (R : Int)) from fun wx h => h.cell (HC.out.cell hb (by simp)) (by simp))
      have HCA := Lib.hid (show ∀ wx, Chg [] wq wx → Calls Try.prog 13 #[.slice sa l.length sc, .int .i64 (k : Int), .int .i64 (k : Int)] wx fun e w' => e = .returned (.int .i64 (R : Int)) ∧ Chg [] wx w' from fun wx h => by
        have := HCM.out _ (k : Int) (k : Int) wx (HSF3.out.keep (HC.out.trans h (by simp)))
        rwa [cmn_self T k (by rw [HTL.out]; exact hlt), ← hR] at this)
      have HCB := Lib.hid (show ∀ wx, Chg [] wq wx → Calls Try.prog 13 #[.slice sa l.length sc, .int .i64 (k : Int), .int .i64 (N : Int)] wx fun e w' => e = .returned (.int .i64 0) ∧ Chg [] wx w' from fun wx h => by
        have := HCM.out _ (k : Int) (N : Int) wx (HSF3.out.keep (HC.out.trans h (by simp)))
        rwa [show cmn T (k : Int) (N : Int) = 0 by unfold cmn; rw [if_neg (by rw [HTL.out]; omega)]] at this)
      have HCC := Lib.hid (show ∀ wx, Chg [] wq wx → Calls Try.prog 13 #[.slice sa l.length sc, .int .i64 (-1), .int .i64 (k : Int)] wx fun e w' => e = .returned (.int .i64 0) ∧ Chg [] wx w' from fun wx h => by
        have := HCM.out _ (-1 : Int) (k : Int) wx (HSF3.out.keep (HC.out.trans h (by simp)))
        rwa [show cmn T (-1 : Int) (k : Int) = 0 by unfold cmn; rw [if_neg (by omega)]] at this)
      have e1 : ((R : Int) != (R : Int)) = false := by simp
      have HK0 := Lib.hid (Chg.refl [] wq).drew
      have q1 := HQ.out wq (Chg.refl [] wq)
      have q2 := HQ.out wq.drew (Chg.refl [] wq).drew
      clear hlf hcs hR hb
      go_upto_region 8 with fail
      go_cut [43] (fun s43 wx => s43 = .bool false ∧ Chg [] wq wx)
      case first =>
        go_region_held3 (fun w' => w'.cell? ⟨fg, foff + k * 4 + 1, none⟩ = some (.int .i64 (R : Int))) (first | exact q1 | exact q2 | exact s1 | exact s2 | exact s3) (first
          | (go_simp; go_at_call 13; (with_reducible refine (HCA.out _ HK0.out).mono ?_); rintro e wx ⟨rfl, hk⟩; have HKA := Lib.hid (HK0.out.trans hk (by simp)); have s1 := HQ.out wx HKA.out; clear hk)
          | (go_simp; go_at_call 13; (with_reducible refine (HCB.out _ HKA.out).mono ?_); rintro e wx ⟨rfl, hk⟩; have HKB := Lib.hid (HKA.out.trans hk (by simp)); have s2 := HQ.out wx HKB.out; clear hk)
          | (go_simp; go_at_call 13; (with_reducible refine (HCC.out _ HKB.out).mono ?_); rintro e wx ⟨rfl, hk⟩; have HKC := Lib.hid (HKB.out.trans hk (by simp)); have s3 := HQ.out wx HKC.out; clear hk))
        all_goals
          try go_wp2
          go_meet
          case rel => first | exact ⟨rfl, HKC.out⟩ | exact ⟨rfl, HKC.out.drew⟩
      case rest =>
      obtain ⟨rfl, hcw⟩ := hcut
      have HCW := Lib.hid (HC.out.trans hcw (by simp))
      clear hcw q1 q2
      go_wp2
      go_loopw [6] (fun y w' => ∃ j : Nat, y = .int .i64 (j : Int) ∧ j ≤ k ∧ Chg [] wC w') (fun y _ => k - (intOf y).toNat)
      case atStart => exact ⟨0, rfl, Nat.zero_le _, HCW.out⟩
      case round =>
        obtain ⟨j, rfl, hjk, hcx⟩ := hrel
        have HCX := Lib.hid hcx
        clear hcx
        by_cases hjl : j < k
        · have g1 : (j : Int) < (k : Int) := by omega
          obtain ⟨c, hcc⟩ : ∃ c, c = cmn T (k : Int) (j : Int) := ⟨_, rfl⟩
          obtain ⟨S, hSS⟩ : ∃ S, S = (T.getD j []).length := ⟨_, rfl⟩
          have hcR : c ≤ R := by rw [hcc, HRR.out]; exact cmn_le T k j
          have hcS : c ≤ S := by rw [hcc, hSS, cmn_comm]; exact cmn_le T j k
          have hb1 := HB1.out k hlt
          have hb2 := HB1.out j (by omega)
          rw [← HRR.out] at hb1
          rw [← hSS] at hb2
          have HC1 := Lib.hid hcc
          have HS5 := Lib.hid (HSF3.out.keep HCX.out)
          clear hcc hSS
          go_wp2_with fail
          refine (HCM.out _ _ _ wr HS5.out).mono ?_
          rintro e w5 ⟨rfl, hk⟩
          rw [← HC1.out]
          have HK5 := Lib.hid (HCX.out.trans hk (by simp)); have HS6 := Lib.hid (HS5.out.keep hk)
          clear hk
          go_wp2_with fail
          refine (HCM.out _ _ _ w5 HS6.out).mono ?_
          rintro e w6 ⟨rfl, hk⟩
          rw [cmn_comm, ← HC1.out]
          have HK6 := Lib.hid (HK5.out.trans hk (by simp))
          have b1 := HK6.out.cell hb1 (by simp)
          have b2 := HK6.out.cell hb2 (by simp)
          have m0 : ((c : Int) != (c : Int)) = false := by simp
          have m1 : ¬ ((R : Int) < (c : Int)) := by omega
          have m2 : ¬ ((S : Int) < (c : Int)) := by omega
          have m3 : ¬ ((c : Int) < 0) := by omega
          have m4 : ¬ (R < c) := by omega
          have m5 : ¬ (S < c) := by omega
          clear hk hb1 hb2
          go_wp2
          go_roundw
          case rel => exact ⟨j + 1, by go_num, by omega, HK6.out⟩
          case measure => simp [intOf]; omega
        · have g1 : ¬ ((j : Int) < (k : Int)) := by omega
          go_wp2
          go_roundw
          case rel => exact ⟨k + 1, by go_num, by omega, HCX.out⟩
          case measure => simp [intOf]; omega
    · go_wp2
      go_ret
      exact ⟨rfl, (HK3.out.trans HC.out (by simp)).below (Nat.le_refl _) (by simp)⟩

end Go.Proofs.Ytpffgelllabfnaa
