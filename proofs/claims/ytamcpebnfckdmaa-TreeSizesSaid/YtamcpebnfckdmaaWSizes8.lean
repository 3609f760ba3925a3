/- The walk of the statement TreeSizes. -/
import Derived.Test.YtamcpebnfckdmaaYp
import Derived.Test.YtamcpebnfckdmaaYq
import Derived.Test.YtamcpebnfckdmaaMw
namespace Go.Proofs.Ytamcpebnfckdmaa
open Go.RowKit
set_option linter.unusedVariables false

set_option maxRecDepth 100000 in
set_option maxHeartbeats 4000000 in
theorem walk_TreeSizes (a0 : Option Addr) (len0 cap0 : Nat) (z0 : List Int) (a1 : Option Addr) (len1 cap1 : Nat) (z1 : List Int) (w : World) (w0 : IsRow .i64 w a0 len0 cap0 z0) (w1 : IsRow .i64 w a1 len1 cap1 z1) :
    Calls Try.prog 13 #[.slice a0 len0 cap0, .slice a1 len1 cap1] w fun e w' => e = .returned (.bool true) ∧ Below w.heap.size w w' := by
  obtain ⟨ns, hS, hlen, hwf⟩ := w0.seenI
  obtain ⟨rs, hS2, hlen2, hwf2⟩ := w1.seenI
  have HS := Lib.hid hS; have HWF := Lib.hid hwf; have HS2 := Lib.hid hS2; have HWF2 := Lib.hid hwf2
  clear w0 w1 hS hwf hlen hS2 hwf2 hlen2
  have hmk := mk_ok ns
  have hgd := chk_good (mk_chk ns)
  obtain ⟨l, hl⟩ : ∃ l, l = mk ns := ⟨_, rfl⟩
  rw [← hl] at hmk hgd
  have HL := Lib.hid hl
  have hln := hmk.le
  have hlp : 1 ≤ l.length := hmk.pos
  have HFC := Lib.hid (show ∀ f ∈ l, f.c ≤ 9223372036854775807 from fun f hf => by have := hmk.c f hf; omega)
  have hsz := mk8_sz rs hgd hlp hln
  obtain ⟨T, hT⟩ : ∃ T, T = mk8 l rs := ⟨_, rfl⟩
  rw [← hT] at hsz
  have HT := Lib.hid hT
  clear hmk hl hgd hT
  go_enter Try.func13, Try.ntmps13
  go_wp2_with fail
  (with_reducible refine (known8_any _).mono ?_)
  rintro e w1 ⟨rfl, hk⟩
  have HK1 := Lib.hid hk
  clear hk
  go_wp2_with fail
  (with_reducible refine (make_any _ ns _ (HS.out.keep HK1.out) HWF.out).mono ?_)
  rintro e w2 ⟨sv, rfl, hown, hk⟩
  rw [← HL.out] at hown
  have hSv := SeenF.own hown rfl
  obtain ⟨sa, sc, rfl⟩ := own_shape hown
  have HSF := Lib.hid hSv
  have HK2 := Lib.hid (HK1.out.trans hk (by simp))
  clear hown hSv hk
  go_wp2_with fail
  (with_reducible refine (make8_any _ _ l rs _ HSF.out (HS2.out.keep HK2.out) hlp (by omega) HFC.out HWF2.out).mono ?_)
  rintro e w3 ⟨kv, rfl, hkv, hk⟩
  rw [← HT.out] at hkv ⊢
  have hka := hkv.at
  obtain ⟨ko, kcap, rfl, hc1, hc2⟩ := hka.shape
  have HK3 := Lib.hid (HK2.out.trans hk (by simp))
  obtain ⟨D, hD⟩ : ∃ D, D = l.length := ⟨_, rfl⟩
  rw [← hD] at hka hln
  obtain ⟨tn, htn⟩ : ∃ n, n = T.n := ⟨_, rfl⟩
  obtain ⟨ts, hts⟩ : ∃ s, s = T.s := ⟨_, rfl⟩
  obtain ⟨K, hKK⟩ : ∃ K, K = T.k := ⟨_, rfl⟩
  obtain ⟨Z, hZ⟩ : ∃ Z, Z = szT T := ⟨_, rfl⟩
  have HZ := Lib.hid (show Z = 1 + szK K by rw [hZ, hKK]; exact szT_eq T)
  have HSA := Lib.hid (fun wx (hk : Chg [] w3 wx) => size8_any T _ D wx (hka.keep hk) (by omega) (by omega))
  have HRA := Lib.hid (fun wx (hk : Chg [] w3 wx) => rsize_any D T _ wx (hka.keep hk) (by omega))
  have HZA := Lib.hid (fun wx => size8_any (.mk 0 ByteArray.empty []) nilS 1 wx kids_nil (by decide) (by rw [szT_eq]; show 1 + szK [] ≤ _; rw [szK]; decide))
  rw [show szT (.mk 0 ByteArray.empty []) = 1 from by rw [szT_eq]; show 1 + szK [] = 1; rw [szK]] at HZA
  simp only [Tr.n_mk, Tr.s_mk, eS_eq] at HZA
  rw [← hZ] at HSA HRA hsz
  rw [← htn, ← hts] at HSA HRA ⊢
  rw [← hKK] at hka hc1 HSA HRA ⊢
  obtain ⟨m, hm⟩ : ∃ m, m = K.length := ⟨_, rfl⟩
  rw [← hm] at hka hc1 HSA HRA ⊢
  have HM := Lib.hid hm; have HKA := Lib.hid hka
  have hmx : m ≤ 9223372036854775807 := by unfold maxLen at hc2; omega
  clear hkv hk hka htn hts hKK hZ hm HT hD
  go_wp2
  obtain ⟨w4, hw4⟩ : ∃ w4, w4 = w3.alloc (.cells #[.int .i64 tn, .string ts, .slice ko m kcap] 30) := ⟨_, rfl⟩
  obtain ⟨b, hb⟩ : ∃ b, b = w3.heap.size := ⟨_, rfl⟩
  have HB := Lib.hid (show w4.cell? ⟨b, 0, none⟩ = some (.int .i64 tn) ∧ w4.cell? ⟨b, 1, none⟩ = some (.string ts) ∧ w4.cell? ⟨b, 2, none⟩ = some (.slice ko m kcap) by rw [hw4, hb]; simp)
  have HC4 := Lib.hid (show Chg [] w3 w4 by rw [hw4]; exact (Chg.refl [] w3).alloc _)
  rw [← hw4, ← hb]
  clear hw4 hb
  go_loopw [6, 7] (fun s x wx => ∃ (nv i : Nat), s = .int .i64 (nv : Int) ∧ x = .int .i64 (i : Int) ∧ i ≤ m ∧ Z = nv + szK (K.drop i) ∧ Chg [] w4 wx) (fun _ x _ => m - (intOf x).toNat)
  case atStart => exact ⟨1, 0, rfl, rfl, Nat.zero_le _, HZ.out, Chg.refl _ _⟩
  case round =>
    obtain ⟨nv, i, rfl, rfl, him, he, hC⟩ := hrel
    have HE := Lib.hid he; have HC := Lib.hid hC
    have ht2 := hC.cell HB.out.2.2 (by simp)
    clear he hC
    by_cases hlt : i < m
    · obtain ⟨x, hx⟩ : ∃ x, K[i]? = some x := ⟨_, List.getElem?_eq_getElem (by rw [← HM.out]; exact hlt)⟩
      obtain ⟨d', gk, koff, hd, rfl, hck⟩ := KidsAt.get (HKA.out.keep (HC4.out.trans HC.out (by simp))) (by omega)
      obtain ⟨lv, hlc, hll⟩ := hck i x hx
      obtain ⟨lo, lcap, rfl, hq1, hq2⟩ := hll.shape
      obtain ⟨q, hq⟩ : ∃ q, q = x.length := ⟨_, rfl⟩
      rw [← hq] at hlc hll hq1
      have HQ := Lib.hid hq; have HLL := Lib.hid hll
      have HLC := Lib.hid (And.intro ht2 hlc)
      have HD := Lib.hid (szK_drop hx)
      have hqx : q ≤ 9223372036854775807 := by unfold maxLen at hq2; omega
      clear hck hll hx hq
      go_wp2
      go_loopw [6, 8] (fun s x' wx => ∃ (nv j : Nat), s = .int .i64 (nv : Int) ∧ x' = .int .i64 (j : Int) ∧ j ≤ q ∧ Z = nv + (szL (x.drop j) + szK (K.drop (i + 1))) ∧ Chg [] wr wx) (fun _ x _ => q - (intOf x).toNat)
      case atStart => exact ⟨nv, 0, rfl, rfl, Nat.zero_le _, by rw [HE.out, HD.out]; rfl, Chg.refl _ _⟩
      case round =>
        obtain ⟨nv2, j, rfl, rfl, hjq, he2, hC2⟩ := hrel
        have HE2 := Lib.hid he2; have HC2 := Lib.hid hC2
        have ht2 := hC2.cell HLC.out.1 (by simp)
        have hlc := hC2.cell HLC.out.2 (by simp)
        have hnz : nv2 ≤ Z := by omega
        clear he2 hC2
        by_cases hlt2 : j < q
        · obtain ⟨t4, ht4⟩ : ∃ t, x[j]? = some t := ⟨_, List.getElem?_eq_getElem (by rw [← HQ.out]; exact hlt2)⟩
          obtain ⟨gl, loff, rfl, hcl⟩ := ListAt.get (HLL.out.keep HC2.out) (by omega)
          obtain ⟨kv4, b1, b2, b3, hkv⟩ := hcl j t4 ht4
          obtain ⟨ko4, kc4, rfl, -, -⟩ := hkv.shape
          have HD2 := Lib.hid (szL_drop ht4)
          have hz4 : szT t4 ≤ Z := by rw [HE2.out, HD2.out]; omega
          have HIV := Lib.hid (size8_any t4 _ d' _ hkv (by omega) (by omega))
          obtain ⟨z4, hzz⟩ : ∃ z, z = szT t4 := ⟨_, rfl⟩
          rw [← hzz] at HIV HD2 hz4
          obtain ⟨tn4, htn⟩ : ∃ n, n = t4.n := ⟨_, rfl⟩
          obtain ⟨ts4, hts⟩ : ∃ s, s = t4.s := ⟨_, rfl⟩
          rw [← htn, ← hts] at HIV
          rw [← htn] at b1
          rw [← hts] at b2
          have hsum : nv2 + z4 ≤ Z := by rw [HE2.out, HD2.out]; omega
          have hwz : IntKind.i64.wrap ((nv2 : Int) + (z4 : Int)) = (nv2 : Int) + (z4 : Int) := IntWalk.i64_in _ (by omega)
          clear hcl hkv ht4 hzz htn hts
          go_wp2_with (first
            | (go_at_call 39; (with_reducible refine HIV.out.mono ?_); rintro e w4 ⟨rfl, hk4⟩; have HC4' := Lib.hid (HC2.out.trans hk4 (by simp)); clear hk4)
            | fail)
          go_roundw
          case rel => exact ⟨nv2 + z4, j + 1, by go_num, by go_num, by omega, by rw [HE2.out, HD2.out]; omega, HC4'.out⟩
          case measure => simp [intOf]; omega
        · have hje : j = q := by omega
          have E := Lib.hid (show Z = nv2 + szK (K.drop (i + 1)) by
            rw [HE2.out, hje, HQ.out, List.drop_of_length_le (Nat.le_refl _), szL]; omega)
          clear hje
          go_wp2
          go_roundw
          case rel => exact ⟨nv2, i + 1, rfl, by go_num, by omega, E.out, HC.out.trans HC2.out (by simp)⟩
          case measure => simp [intOf]; omega
    · have hie : i = m := by omega
      have hnv : nv = Z := by
        have h := HE.out
        rw [hie, HM.out, List.drop_of_length_le (Nat.le_refl _), szK] at h
        omega
      subst hnv
      obtain ⟨t0, t1, -⟩ := HB.out
      have t0 := HC.out.cell t0 (by simp)
      have t1 := HC.out.cell t1 (by simp)
      have HW := Lib.hid (HC4.out.trans HC.out (by simp))
      have HSB := Lib.hid (HSA.out _ HW.out)
      have e1 : ((nv : Int) == (nv : Int)) = true := by simp
      clear hie
      go_wp2_with fail
      (with_reducible refine HSB.out.mono ?_)
      rintro e w5 ⟨rfl, hk5⟩
      have HC5 := Lib.hid hk5
      have t0 := hk5.cell t0 (by simp)
      have t1 := hk5.cell t1 (by simp)
      have t2 := hk5.cell ht2 (by simp)
      clear hk5
      go_wp2_with fail
      (with_reducible refine (HZA.out _).mono ?_)
      rintro e w6 ⟨rfl, hk6⟩
      have HC6 := Lib.hid (HC5.out.trans hk6 (by simp))
      have t0 := hk6.cell t0 (by simp)
      have t1 := hk6.cell t1 (by simp)
      have t2 := hk6.cell t2 (by simp)
      have HRB := Lib.hid (HRA.out _ (HW.out.trans HC6.out (by simp)))
      clear hk6
      go_wp2_with fail
      (with_reducible refine HRB.out.mono ?_)
      rintro e w7 ⟨rfl, hk7⟩
      have HC7 := Lib.hid (HC6.out.trans hk7 (by simp))
      clear hk7
      go_wp2
      go_ret
      exact ⟨rfl, ((HK3.out.trans HW.out (by simp)).trans HC7.out (by simp)).below (Nat.le_refl _) (by simp)⟩

end Go.Proofs.Ytamcpebnfckdmaa
