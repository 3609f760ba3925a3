/- The walk of the statement DictOrder. -/
import Derived.Test.YtegidbbigjhapaaEf
namespace Go.Proofs.Ytegidbbigjhapaa
open Go.RowKit
set_option linter.unusedVariables false
set_option linter.unusedSimpArgs false

theorem words_most (l : List V) (h : l.length ≤ 256) : bldL l 256 = (wdsL l, atsL l, true) := by
  have := wdsL_len l
  exact bldL_in (by omega) (by omega)

set_option maxRecDepth 100000 in
set_option maxHeartbeats 4000000 in
theorem walk_DictOrder (a0 : Int) (a1 : Option Addr) (len1 cap1 : Nat) (l1 : List V) (a2 : Option Addr) (len2 cap2 : Nat) (l2 : List V) (w : World) (w0 : (Lit.int .i64 a0).wf = true) (w1 : SeenV w (.slice a1 len1 cap1) l1) (v1 : ∀ v ∈ l1, (Lit.int .i64 v.n).wf = true) (w2 : SeenV w (.slice a2 len2 cap2) l2) (v2 : ∀ v ∈ l2, (Lit.int .i64 v.n).wf = true) :
    Calls Try.prog 9 #[.int .i64 a0, .slice a1 len1 cap1, .slice a2 len2 cap2] w fun e w' => e = .returned (.bool true) ∧ Below w.heap.size w w' := by
  have HS1 := Lib.hid w1; have HV1 := Lib.hid v1; have HS2 := Lib.hid w2; have HV2 := Lib.hid v2
  have HQ := Lib.hid (fun wx => within13 a0 4 4 wx rfl (by decide) (by decide) w0)
  obtain ⟨K, hK⟩ : ∃ K, K = (a0 % ((4 : Nat) : Int)).toNat := ⟨_, rfl⟩
  have hK4 : K < 4 := by rw [hK]; exact within_lt a0 4 (by decide)
  rw [← hK] at HQ
  clear w1 v1 w2 v2 w0 hK
  go_enter Try.func9, Try.ntmps9
  go_wp2_with fail
  refine (known13_any _).mono ?_
  rintro e wA ⟨rfl, hk⟩
  have HKA := Lib.hid hk
  clear hk
  go_wp2_with fail
  refine (HQ.out _).mono ?_
  rintro e wB ⟨rfl, rfl⟩
  go_wp2_with fail
  obtain ⟨k, hk⟩ : ∃ k, k = K + 1 := ⟨_, rfl⟩
  have hk4 : 1 ≤ k ∧ k ≤ 4 := by omega
  rw [show (1 : Int) + (K : Int) = (k : Int) by omega]
  refine (all11_any k hk4 _ l1 wA (HS1.out.keep HKA.out) HV1.out).mono ?_
  rintro e wB ⟨x, rfl, hc, ho⟩
  obtain ⟨lo, lc, rfl⟩ := own_shape ho
  have hL60 := allV_len k l1
  have hM60 := allV_len k l2
  obtain ⟨L, hL⟩ : ∃ L, L = allV k l1 := ⟨_, rfl⟩
  rw [← hL] at ho hL60 ⊢
  obtain ⟨n, hn⟩ : ∃ n, n = L.length := ⟨_, rfl⟩
  have HO := Lib.hid ho
  rw [← hn] at hL60 ⊢
  have HN := Lib.hid hn
  have HKB := Lib.hid (HKA.out.trans hc (by simp))
  have HL := Lib.hid (show SeenV wB (.slice lo n lc) L from by have := SeenK.own V.cs_len ho rfl; rw [hn]; exact this)
  have HA2 := Lib.hid (fun (wx : World) (hs : Chg [] w wx) => all11_any k hk4 _ l2 wx (HS2.out.keep hs) HV2.out)
  obtain ⟨M, hM⟩ : ∃ M, M = allV k l2 := ⟨_, rfl⟩
  rw [← hM] at HA2 hM60
  obtain ⟨N, hN⟩ : ∃ N, N = L ++ M := ⟨_, rfl⟩
  have HNE := Lib.hid hN
  obtain ⟨nn, hnn⟩ : ∃ nn, nn = N.length := ⟨_, rfl⟩
  have hnn120 : n ≤ nn ∧ nn ≤ 120 := by rw [hnn, hN, List.length_append]; omega
  have HNN := Lib.hid hnn
  have hL6 : L.length ≤ 60 := by rw [← hn]; exact hL60
  have HW256 := Lib.hid (words_most L (by omega))
  have HN256 := Lib.hid (words_most N (by rw [← hnn]; omega))
  have HPRE := Lib.hid (show (wdsL N).take (wdsL L).length = wdsL L from by
    have h := wdsL_pre L M
    rw [← hN] at h
    exact (List.prefix_iff_eq_take.1 h).symm)
  have HPLE := Lib.hid (show (wdsL L).length ≤ (wdsL N).length from by
    have h := wdsL_pre L M
    rw [← hN] at h
    exact h.length_le)
  have HATS := Lib.hid (show ∀ i, i < n → (atsL N).getD i 0 = (atsL L).getD i 0 from fun i hi => by
    have hl : i < (atsL L).length := by rw [atsL_len, ← hn]; exact hi
    rw [hN, atsL_app, List.getD_eq_getElem?_getD, List.getD_eq_getElem?_getD, List.getElem?_append_left hl])
  have HAL := Lib.hid (show (atsL L).length = n by rw [atsL_len, hn])
  have HAN := Lib.hid (show (atsL N).length = nn by rw [atsL_len, hnn])
  clear hc ho hL hn hM hN hnn hk
  have HE := Lib.hid (own_lit wB wB.heap.size wB.heap.size rfl (Nat.le_refl _) 28 #[] [] 0 2 rfl rfl (by decide))
  go_wp2_with (first
    | (at_builtin; refine wpList_append_V _ rfl _ _ rfl wB.heap.size wA.heap.size _ _ [] L rfl rfl HE.out (by have := own_chg HO.out ((Chg.refl [] wB).alloc (.cells #[] 28)) (by simp); rw [← HN.out] at this ⊢; exact this) (by simp; omega) (by simp) ?_; intro v2 wC ho2 hg2; obtain ⟨xo2, xc2, rfl⟩ := own_shape ho2; have HG2 := Lib.hid (((Chg.refl [] wB).alloc (.cells #[] 28)).grown hg2 (fun g hg => .inr (HE.out.lt g hg).1)); have HO2 := Lib.hid ho2; clear ho2 hg2)
    | fail)
  refine (HA2.out _ (HKB.out.trans HG2.out (by simp))).mono ?_
  rintro e wD ⟨x3, rfl, hc3, ho3⟩
  obtain ⟨xo3, xc3, rfl⟩ := own_shape ho3
  have HC3 := Lib.hid hc3
  have HB2 := Lib.hid (show wB.heap.size ≤ wC.heap.size from HG2.out.size)
  have HK3 := Lib.hid (show Chg [] wB wD from HG2.out.trans hc3 (by simp))
  have HM3 := Lib.hid ho3
  have HO3 := Lib.hid (own_chg HO2.out hc3 (by simp))
  clear ho3 hc3
  rename_i K1 hK1
  refine hK1 _ _ ?_
  refine wpList_append_V _ rfl _ _ rfl wB.heap.size wC.heap.size _ _ ([] ++ L) M rfl rfl HO3.out HM3.out (by simp; omega) (Nat.le_trans HB2.out HC3.out.size) ?_
  intro v4 wE ho4 hg4
  obtain ⟨xo4, xc4, rfl⟩ := own_shape ho4
  have HK4 := Lib.hid (show Chg [] wB wE from HK3.out.grown hg4 (fun g hg => .inr (HO3.out.lt g hg).1))
  rw [List.nil_append, ← HNE.out, ← HNN.out] at ho4
  have hnl : ([] ++ L ++ M).length = nn := by rw [List.nil_append, ← HNE.out, HNN.out]
  rw [hnl]
  have HSN := Lib.hid (show SeenV wE (.slice xo4 nn xc4) N from SeenK.own V.cs_len ho4 HNN.out.symm)
  have HSL := Lib.hid (show SeenV wE (.slice lo n lc) L from HL.out.keep HK4.out)
  have HKE := Lib.hid (show Chg [] w wE from HKB.out.trans HK4.out (by simp))
  clear ho4 hg4 hnl
  obtain ⟨W, hW⟩ : ∃ W, W = wdsL L := ⟨_, rfl⟩
  obtain ⟨A, hA⟩ : ∃ A, A = atsL L := ⟨_, rfl⟩
  obtain ⟨X, hX⟩ : ∃ X, X = wdsL N := ⟨_, rfl⟩
  obtain ⟨T, hT⟩ : ∃ T, T = atsL N := ⟨_, rfl⟩
  rw [← hW, ← hA] at HW256
  rw [← hX, ← hT] at HN256
  rw [← hX, ← hW] at HPRE HPLE
  rw [← hT, ← hA] at HATS
  rw [← hA] at HAL
  rw [← hT] at HAN
  obtain ⟨m, hm⟩ : ∃ m, m = W.length := ⟨_, rfl⟩
  obtain ⟨x, hx⟩ : ∃ x, x = X.length := ⟨_, rfl⟩
  rw [← hm] at HPRE HPLE
  rw [← hx] at HPLE
  have HB1 := Lib.hid (bld13 (k : Int) _ L W A true 256 wE HSL.out (by omega) rfl HW256.out)
  have HB2 := Lib.hid (fun (wx : World) (hs : Chg [] wE wx) => bld13 (k : Int) _ N X T true 256 wx (HSN.out.keep hs) (by rw [← HNN.out]; omega) rfl HN256.out)
  rw [← hm, HAL.out] at HB1
  simp only [← hx, HAN.out] at HB2
  have HXL := Lib.hid hx; have HML := Lib.hid hm
  clear hm hx hW hA hX hT
  go_wp2_with fail
  refine HB1.out.mono ?_
  rintro e wF ⟨wo, wc, tp, tc, rfl, hc, hs, ha⟩
  have HCF := Lib.hid hc; have HSW := Lib.hid hs; have HTA := Lib.hid ha
  clear hc hs ha
  go_wp2_with fail
  refine (HB2.out wF HCF.out).mono ?_
  rintro e wG ⟨yo, yc, sp, sc, rfl, hc, hs, ha⟩
  have HCG := Lib.hid hc; have HSX := Lib.hid hs; have HTT := Lib.hid ha
  have HSW2 := Lib.hid (show SeenV wG (.slice wo m wc) W from HSW.out.keep hc)
  have HTA2 := Lib.hid (own_chg HTA.out hc (by simp))
  clear hc hs ha
  have hmx := HPLE.out
  have d0 : decide ((x : Int) < (m : Int)) = false := by simp; omega
  obtain ⟨xc1, yc1, e1, hroom, hmax⟩ := HSX.out.shape
  have hxyc : x ≤ yc := by
    injection e1 with f1 f2 f3
    rw [f3, HXL.out]; exact hroom
  clear e1 hroom hmax
  obtain ⟨fo, fc, hsf, hfr⟩ := run_front_v HSX.out hxyc m hmx
  rw [HPRE.out] at hsf
  have HSF := Lib.hid hsf
  have hnnb : ((nn : Int) != (nn : Int)) = false := by simp
  clear hsf
  go_wp2_with (first
    | (go_at_call 15; (with_reducible refine (same11_any _ _ W wG HSF.out HSW2.out).mono ?_); rintro e wH ⟨rfl, hc⟩; have HCH := Lib.hid hc; clear hc)
    | fail)
  have HK := Lib.hid (show Chg [] w wH from ((HKE.out.trans HCF.out (by simp)).trans HCG.out (by simp)).trans HCH.out (by simp))
  have HA3 := Lib.hid (own_chg HTA2.out HCH.out (by simp))
  have HT3 := Lib.hid (own_chg HTT.out HCH.out (by simp))
  go_loopw [16] (fun i w' => ∃ j : Nat, j ≤ n ∧ i = .int .i64 (j : Int) ∧ ∃ q, w' = wH.drewN q) (fun i _ => n - (intOf i).toNat)
  case atStart => exact ⟨0, Nat.zero_le _, rfl, 0, rfl⟩
  case round =>
    obtain ⟨j, hj, rfl, q, rfl⟩ := hrel
    by_cases hlt : j < n
    · have d1 : decide ((j : Int) < (n : Int)) = true := by simp; omega
      obtain ⟨ga, rfl⟩ := own_some HA3.out (by omega)
      obtain ⟨gs, rfl⟩ := own_some HT3.out (by omega)
      have c0 := own_cell HA3.out HAL.out j hlt
      have c1 := own_cell HT3.out HAN.out j (by omega)
      rw [HATS.out j hlt] at c1
      obtain ⟨z, hz⟩ : ∃ z, z = A.getD j 0 := ⟨_, rfl⟩
      rw [← hz] at c0 c1
      have hzz : ((z : Int) != (z : Int)) = false := by simp
      clear hz
      go_wp2
      go_quiet (fail)
      go_wp2
      go_roundw
      case rel => exact ⟨j + 1, hlt, by go_num, _, rfl⟩
      case measure => simp [intOf]; omega
    · have d1 : decide ((j : Int) < (n : Int)) = false := by simp; omega
      go_wp2
      go_ret
      exact ⟨rfl, (HK.out.drewN q).below (Nat.le_refl _) (by simp)⟩

end Go.Proofs.Ytegidbbigjhapaa
