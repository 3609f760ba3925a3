/- The reference's fits. -/
import Derived.Test.YtkbfbiklnjldgaaYv
import Derived.Test.YtkbfbiklnjldgaaYB
import Derived.Test.YtkbfbiklnjldgaaYC
namespace Go.Proofs.Ytkbfbiklnjldgaa
open Go.RowKit
set_option linter.unusedVariables false

theorem kidsU_at {ps : List Int} {f i : Nat} (h : ps.getD i 0 = (f : Int)) : ∀ m, i < m → (kidsU ps m f)[(kidsU ps i f).length]? = some (i : Int)
  | 0, hm => absurd hm (by omega)
  | m + 1, hm => by
    by_cases he : i = m
    · subst he
      rw [kidsU_succ, if_pos h, List.getElem?_append_right (Nat.le_refl _), Nat.sub_self]
      rfl
    · have ih := kidsU_at h m (by omega)
      rw [kidsU_succ]
      split
      · rw [List.getElem?_append_left (List.getElem?_eq_some_iff.1 ih).1]; exact ih
      · exact ih

/-- What the reference wants of a schema. -/
structure FitOk (l : List F) : Prop where
  c : ∀ f, f < l.length → (l.getD f default).k = 0 → (l.getD f default).c = ((kidsU (parents l) l.length f).length : Int)
  r : ∀ f, f < l.length → (l.getD f default).r = 0 ∨ (l.getD f default).r = 1 ∨ (l.getD f default).r = 2
  n : l.length ≤ 1000

theorem times_ok {r : Int} {q : Nat} (h : timesE r q = 0) (hr : r = 0 ∨ r = 1 ∨ r = 2) : (r = 0 ∧ q = 1) ∨ (r = 1 ∧ q ≤ 1) ∨ (r = 2 ∧ q ≤ 50) := by
  unfold timesE at h
  rcases hr with rfl | rfl | rfl
  · left
    refine ⟨rfl, ?_⟩
    rw [if_pos rfl] at h
    split at h <;> omega
  · right; left
    refine ⟨rfl, ?_⟩
    rw [if_neg (by decide), if_pos rfl] at h
    split at h <;> omega
  · right; right
    refine ⟨rfl, ?_⟩
    rw [if_neg (by decide), if_neg (by decide), if_pos rfl] at h
    split at h <;> omega

theorem times_no {r : Int} {q : Nat} (h : ¬ timesE r q = 0) (hr : r = 0 ∨ r = 1 ∨ r = 2) : (r = 0 ∧ 1 < q ∧ timesE r q = 13) ∨ (r = 0 ∧ q = 0 ∧ timesE r q = 13) ∨ (r = 1 ∧ 1 < q ∧ timesE r q = 13) ∨ (r = 2 ∧ 50 < q ∧ timesE r q = 4) := by
  unfold timesE at h ⊢
  rcases hr with rfl | rfl | rfl
  · rw [if_pos rfl] at h
    split at h
    · exact absurd rfl h
    · rename_i h1
      by_cases h2 : 1 < q
      · exact .inl ⟨rfl, h2, by rw [if_pos rfl, if_neg h1]⟩
      · exact .inr (.inl ⟨rfl, by omega, by rw [if_pos rfl, if_neg h1]⟩)
  · rw [if_neg (by decide), if_pos rfl] at h
    split at h
    · exact absurd rfl h
    · rename_i h1
      exact .inr (.inr (.inl ⟨rfl, by omega, by rw [if_neg (by decide), if_pos rfl, if_neg h1]⟩))
  · rw [if_neg (by decide), if_neg (by decide), if_pos rfl] at h
    split at h
    · exact absurd rfl h
    · rename_i h1
      exact .inr (.inr (.inr ⟨rfl, by omega, by rw [if_neg (by decide), if_neg (by decide), if_pos rfl, if_neg h1]⟩))

def RFit (l : List F) (sv pv : Value) (d : Nat) : Prop := ∀ (f : Nat) (t : Tr) (kv : Value) (w : World), f < l.length → SeenF w sv l → SeenI w pv (parents l) → KidsAt w d t.k kv →
  Calls Try.prog 34 #[sv, pv, .int .i64 (f : Int), tv t.n t.s kv] w fun e w' => e = .returned (.int .i64 (fitV l f t)) ∧ Chg [] w w'

set_option maxRecDepth 100000 in
set_option maxHeartbeats 4000000 in
theorem rfits_step (l : List F) (sv pv : Value) (d : Nat) (hok : FitOk l) (ih : RFit l sv pv d) : RFit l sv pv (d + 1) := by
  intro f t kv w hf hS hP hT
  obtain ⟨ao, cap, rfl, hc1, hc2⟩ := hS.shape
  obtain ⟨po, pcap, rfl, hp1, hp2⟩ := hP.shape
  obtain ⟨ko, kcap, rfl, hl1, hl2⟩ := hT.shape
  have HS := Lib.hid hS; have HP := Lib.hid hP; have HT := Lib.hid hT; have IH := Lib.hid ih; have HOK := Lib.hid hok
  obtain ⟨n, hn⟩ : ∃ n, n = l.length := ⟨_, rfl⟩
  have hpl : (parents l).length = n := by rw [parents_length, hn]
  rw [hpl] at hp1 HP IH ⊢
  rw [← hn] at hf hc1 HS IH ⊢
  have hn1 : n ≤ 1000 := by rw [hn]; exact hok.n
  obtain ⟨m, hm⟩ : ∃ m, m = t.k.length := ⟨_, rfl⟩
  obtain ⟨tn, htn⟩ : ∃ n, n = t.n := ⟨_, rfl⟩
  obtain ⟨ts, hts⟩ : ∃ s, s = t.s := ⟨_, rfl⟩
  obtain ⟨K, hK⟩ : ∃ k, k = t.k := ⟨_, rfl⟩
  obtain ⟨ks, hks⟩ : ∃ ks, ks = kidsU (parents l) l.length f := ⟨_, rfl⟩
  obtain ⟨k, hk⟩ : ∃ k, k = (l.getD f default).k := ⟨_, rfl⟩
  obtain ⟨c, hc⟩ : ∃ c, c = (l.getD f default).c := ⟨_, rfl⟩
  obtain ⟨V, hV⟩ : ∃ V, V = fitV l f t := ⟨_, rfl⟩
  have HL := Lib.hid (show k ≠ 0 → V = leafE k (.mk tn ts K) from fun h => by rw [hV, fitV_leaf (by rw [← hk]; exact h), hk, htn, hts, hK, ← t.eta])
  have HG := Lib.hid (show k = 0 → V = if tn ≠ 0 ∨ ts ≠ ByteArray.empty ∨ m ≠ ks.length then 13 else fitG l ks K from fun h => by rw [hV, fitV_group (by rw [← hk]; exact h), htn, hts, hm, hks, hK])
  have HC := Lib.hid (show k = 0 → c = (ks.length : Int) from fun h => by rw [hc, hks]; exact hok.c f (by rw [← hn]; exact hf) (by rw [← hk]; exact h))
  rw [← hV]
  rw [← hm] at hl1 HT ⊢
  rw [← htn, ← hts]
  rw [← hK] at HT
  have HM := Lib.hid (show m = K.length by rw [hm, hK])
  have HKS := Lib.hid hks; have HN := Lib.hid hn; have HPL := Lib.hid hpl; have HKD := Lib.hid hk; have HCD := Lib.hid hc
  have hmx : m ≤ maxLen := by omega
  have hmx2 : m ≤ 9223372036854775807 := by unfold maxLen at hmx; omega
  obtain ⟨w1, hw1⟩ : ∃ w1, w1 = w.alloc (.cells #[.int .i64 tn, .string ts, .slice ko m kcap] 44) := ⟨_, rfl⟩
  obtain ⟨b, hb⟩ : ∃ b, b = w.heap.size := ⟨_, rfl⟩
  have HC1 := Lib.hid (show Chg [] w w1 by rw [hw1]; exact (Chg.refl [] w).alloc _)
  have ht0 : w1.cell? ⟨b, 0, none⟩ = some (.int .i64 tn) := by rw [hw1, hb]; simp
  have ht1 : w1.cell? ⟨b, 1, none⟩ = some (.string ts) := by rw [hw1, hb]; simp
  have ht2 : w1.cell? ⟨b, 2, none⟩ = some (.slice ko m kcap) := by rw [hw1, hb]; simp
  have HW1 := Lib.hid hw1; have HB := Lib.hid hb
  obtain ⟨gs, off, rfl, hcs⟩ := SeenF.get (HS.out.keep HC1.out) (by omega) HN.out.symm
  obtain ⟨-, -, a3, a4⟩ := hcs f hf
  rw [← HKD.out] at a3
  rw [← HCD.out] at a4
  have HT2 := Lib.hid ht2
  clear hS hP hT ih hok hn hpl hm htn hts hK hks hk hc hV hw1 hb hcs
  go_enter Try.func34, Try.ntmps34
  go_upto_region 1 with fail
  rw [← HB.out, ← HW1.out]
  by_cases h0 : k = 0
  case neg =>
    have e0 : (k != 0) = true := by simpa using h0
    have E := Lib.hid (HL.out h0)
    clear h0
    go_upto_region 2 with fail
    go_still_tail 6, (by kernel_rfl)
    change wpList _ _ _ _ _ _
    go_wp2_with (first
      | (go_at_call 59; (with_reducible refine (rleaf8_any k tn ts ko m kcap _ K HM.out.symm).mono ?_); rintro e w3 ⟨rfl, hk3⟩; have HC3 := Lib.hid (HC1.out.trans ((Chg.refl [] _).drew.trans hk3 (by simp)) (by simp)); clear hk3)
      | fail)
    go_ret
    exact ⟨ret_int E.out.symm, HC3.out⟩
  subst h0
  have HG2 := Lib.hid (HG.out rfl); have hcc := HC.out rfl
  obtain ⟨q, hq⟩ : ∃ q, q = ks.length := ⟨_, rfl⟩
  rw [← hq] at hcc HG2
  subst hcc
  have HQ := Lib.hid hq
  clear HL HG HC hq
  by_cases hn0 : tn = 0
  case neg =>
    have e0 : (tn != 0) = true := by simpa using hn0
    have E := Lib.hid (show V = 13 by rw [HG2.out, if_pos (.inl hn0)])
    clear hn0
    go_upto_region 3 with fail
    go_quiet (fail)
    go_wp2
    go_ret
    exact ⟨ret_int E.out.symm, HC1.out.drewN _⟩
  subst hn0
  by_cases hs0 : ts = ByteArray.empty
  case neg =>
    have hs1 : ¬ ts.toList = [] := fun h => hs0 (empty_list.1 h)
    have hs2 : ts.toList.isEmpty = false := by simpa using hs1
    have E := Lib.hid (show V = 13 by rw [HG2.out, if_pos (.inr (.inl hs0))])
    clear hs0
    go_upto_region 3 with fail
    go_quiet (fail)
    go_wp2
    go_ret
    exact ⟨ret_int E.out.symm, HC1.out.drewN _⟩
  have HTS := Lib.hid hs0
  have hts2 : ts = eS := hs0
  subst hts2
  clear hs0
  by_cases hmq : m = q
  case neg =>
    have e0 : ((m : Int) != (q : Int)) = true := by simp; omega
    have E := Lib.hid (show V = 13 by rw [HG2.out, if_pos (.inr (.inr hmq))])
    clear hmq
    go_upto_region 3 with fail
    go_quiet (fail)
    go_wp2
    go_ret
    exact ⟨ret_int E.out.symm, HC1.out.drewN _⟩
  subst hmq
  have HG3 := Lib.hid (show V = fitG l ks K by
    rw [HG2.out, if_neg (by
      rintro (h | h | h)
      · exact h rfl
      · exact h HTS.out
      · exact h rfl)])
  have HLOW := Lib.hid (show (kidsU (parents l) (f + 1) f).length = 0 by rw [kidsU_low l f (f + 1) (Nat.le_refl _) (by rw [← HN.out]; exact hf)]; rfl)
  clear HG2
  have hfw : IntKind.i64.wrap ((f : Int) + 1) = (f : Int) + 1 := IntWalk.i64_in _ (by omega)
  have e0 : ((m : Int) != (m : Int)) = false := by simp
  go_upto_region 3 with fail
  go_quiet (fail)
  go_wp2
  go_loopw [9, 10] (fun s x wx => ∃ j i : Nat, s = .int .i64 (j : Int) ∧ x = .int .i64 (i : Int) ∧ f + 1 ≤ i ∧ i ≤ n ∧ j = (kidsU (parents l) i f).length ∧ Chg [] w1 wx ∧ V = fitG l (ks.drop j) (K.drop j)) (fun _ x _ => n - (intOf x).toNat)
  case atStart => exact ⟨0, f + 1, rfl, by go_num, Nat.le_refl _, hf, HLOW.out.symm, (Chg.refl [] w1).drewN _, HG3.out⟩
  case round =>
    obtain ⟨j, i, rfl, rfl, hfi, hin, hj, hC, hV⟩ := hrel
    have HCW := Lib.hid hC; have HV := Lib.hid hV; have HJ := Lib.hid hj
    have ht2 := hC.cell HT2.out (by simp)
    have hjn : j ≤ n := by rw [hj]; exact Nat.le_trans (kidsU_len _ _ _) hin
    clear hj hC hV
    have hiw : IntKind.i64.wrap ((i : Int) + 1) = (i : Int) + 1 := IntWalk.i64_in _ (by omega)
    have hjw : IntKind.i64.wrap ((j : Int) + 1) = (j : Int) + 1 := IntWalk.i64_in _ (by omega)
    by_cases hlt : i < n
    case neg =>
      have E := Lib.hid (show V = 0 by
        have h1 := HV.out
        have h2 := HJ.out
        have h3 := HQ.out
        have h4 := HM.out
        have hie : i = n := by omega
        rw [hie, HN.out, ← HKS.out, ← h3] at h2
        rw [h2, h4, fitG_end] at h1
        exact h1)
      go_wp2
      go_ret
      exact ⟨ret_int E.out.symm, HC1.out.trans HCW.out (by simp)⟩
    obtain ⟨gp, poff, rfl, hpc⟩ := SeenI.get (HP.out.keep (HC1.out.trans HCW.out (by simp))) (by omega) HPL.out
    have hpi := hpc i hlt
    obtain ⟨g, hg⟩ : ∃ g, g = (parents l).getD i 0 := ⟨_, rfl⟩
    rw [← hg] at hpi
    have HGG := Lib.hid hg
    clear hpc hg
    by_cases hgf : g = (f : Int)
    case neg =>
      have d1 : (g != (f : Int)) = true := by simpa using hgf
      have HJ2 := Lib.hid (show j = (kidsU (parents l) (i + 1) f).length by rw [kidsU_succ, if_neg (by rw [← HGG.out]; exact hgf)]; exact HJ.out)
      clear hgf
      go_wp2
      go_roundw
      case rel => exact ⟨j, i + 1, rfl, by go_num, by omega, by omega, HJ2.out, HCW.out, HV.out⟩
      case measure => simp [intOf]; omega
    subst hgf
    have hks := kidsU_at (m := l.length) HGG.out.symm (by rw [← HN.out]; exact hlt)
    rw [← HKS.out, ← HJ.out] at hks
    have hjm : j < m := by rw [HQ.out]; exact (List.getElem?_eq_some_iff.1 hks).1
    obtain ⟨x, hx⟩ : ∃ x, K[j]? = some x := ⟨_, List.getElem?_eq_getElem (by rw [← HM.out]; exact hjm)⟩
    have HJ2 := Lib.hid (show j + 1 = (kidsU (parents l) (i + 1) f).length by rw [kidsU_succ, if_pos HGG.out.symm, List.length_append, ← HJ.out]; rfl)
    have HV2 := Lib.hid (show V = orE (orE (timesE (l.getD i default).r x.length) (fitL l i x)) (fitG l (ks.drop (j + 1)) (K.drop (j + 1))) by rw [HV.out, fitG_drop hx hks]; rfl)
    obtain ⟨d', gk, koff, hdd, rfl, hck⟩ := KidsAt.get (HT.out.keep (HC1.out.trans HCW.out (by simp))) (by omega)
    have hdd2 : d' = d := by omega
    subst hdd2
    obtain ⟨lv, hlc, hll⟩ := hck j x hx
    obtain ⟨lo, lcap, rfl, hq1, hq2⟩ := hll.shape
    obtain ⟨q, hqx⟩ : ∃ q, q = x.length := ⟨_, rfl⟩
    rw [← hqx] at hlc hll hq1 HV2
    have HQX := Lib.hid hqx; have HX := Lib.hid hx
    have HLX := Lib.hid (fun wx (hk : Chg [] wr wx) => show ListAt wx d' x (.slice lo q lcap) from hll.keep hk)
    have hqm : q ≤ 9223372036854775807 := by unfold maxLen at hq2; omega
    obtain ⟨gs', off', he', hcs2⟩ := SeenF.get (HS.out.keep (HC1.out.trans HCW.out (by simp))) (by omega) HN.out.symm
    injection he' with he'
    injection he' with he1 he2
    subst he1 he2
    obtain ⟨-, a2, -, -⟩ := hcs2 i hlt
    have hr := HOK.out.r i (by rw [← HN.out]; exact hlt)
    obtain ⟨r, hrr⟩ : ∃ r, r = (l.getD i default).r := ⟨_, rfl⟩
    rw [← hrr] at a2 hr HV2
    clear hks hck hll hx hqx hcs2 hrr hdd HV HJ HGG
    by_cases htm : timesE r q = 0
    case neg =>
      obtain ⟨hr', hv'⟩ : ∃ v, timesE r q = v ∧ v ≠ 0 := ⟨_, rfl, htm⟩
      have HVE := Lib.hid (show V = timesE r q by rw [HV2.out]; unfold orE; rw [if_pos htm, if_pos htm])
      rcases times_no htm hr with ⟨rfl, hq5, ht5⟩ | ⟨rfl, rfl, ht5⟩ | ⟨rfl, hq5, ht5⟩ | ⟨rfl, hq5, ht5⟩
      · have d1 : decide ((1 : Int) < (q : Int)) = true := by simp; omega
        have E := Lib.hid (show V = 13 by rw [HVE.out, ht5])
        clear htm ht5 hv' hr HVE HV2
        go_wp2
        go_ret
        exact ⟨ret_int E.out.symm, HC1.out.trans HCW.out (by simp)⟩
      · have E := Lib.hid (show V = 13 by rw [HVE.out, ht5])
        clear htm ht5 hv' hr HVE HV2
        go_wp2
        go_ret
        exact ⟨ret_int E.out.symm, HC1.out.trans HCW.out (by simp)⟩
      · have d1 : decide ((1 : Int) < (q : Int)) = true := by simp; omega
        have E := Lib.hid (show V = 13 by rw [HVE.out, ht5])
        clear htm ht5 hv' hr HVE HV2
        go_wp2
        go_ret
        exact ⟨ret_int E.out.symm, HC1.out.trans HCW.out (by simp)⟩
      · have d1 : decide ((50 : Int) < (q : Int)) = true := by simp; omega
        have E := Lib.hid (show V = 4 by rw [HVE.out, ht5])
        clear htm ht5 hv' hr HVE HV2
        go_wp2
        go_ret
        exact ⟨ret_int E.out.symm, HC1.out.trans HCW.out (by simp)⟩
    have HV3 := Lib.hid (show V = orE (fitL l i x) (fitG l (ks.drop (j + 1)) (K.drop (j + 1))) by rw [HV2.out, htm]; rfl)
    have hpass := times_ok htm hr
    have d50 : decide ((50 : Int) < (q : Int)) = false := by simp; omega
    have HRQ : (r = 2 ∨ decide ((1 : Int) < (q : Int)) = false) ∧ (r = 0 → ((q : Int) != 1) = false) := by
      rcases hpass with ⟨h1, h2⟩ | ⟨h1, h2⟩ | ⟨h1, h2⟩
      · exact ⟨.inr (by simp; omega), fun _ => by simp; omega⟩
      · exact ⟨.inr (by simp; omega), fun h => by omega⟩
      · exact ⟨.inl h1, fun h => by omega⟩
    have HHR := Lib.hid HRQ
    clear htm hpass HRQ HV2
    rcases hr with rfl | rfl | rfl
    · have d1 : decide ((1 : Int) < (q : Int)) = false := HHR.out.1.resolve_left (by decide)
      have d2 : ((q : Int) != 1) = false := HHR.out.2 rfl
      go_wp2
      go_loopw [12] (fun s wx => ∃ j2 : Nat, s = .int .i64 (j2 : Int) ∧ j2 ≤ q ∧ Chg [] wr wx ∧ V = orE (fitL l i (x.drop j2)) (fitG l (ks.drop (j + 1)) (K.drop (j + 1)))) (fun s _ => q - (intOf s).toNat)
      case atStart => exact ⟨0, rfl, Nat.zero_le _, Chg.refl _ _, HV3.out⟩
      case round =>
        obtain ⟨j2, rfl, hj2, hC4, hE4⟩ := hrel
        have HC5 := Lib.hid hC4; have HC4 := Lib.hid (HCW.out.trans hC4 (by simp)); have HE4 := Lib.hid hE4
        clear hC4 hE4
        by_cases hlt2 : j2 < q
        · obtain ⟨t4, ht4⟩ : ∃ t, x[j2]? = some t := ⟨_, List.getElem?_eq_getElem (by rw [← HQX.out]; exact hlt2)⟩
          obtain ⟨gl, loff, hle, hcl⟩ := ListAt.get (HLX.out _ HC5.out) (by omega)
          subst hle
          obtain ⟨kv4, b1, b2, b3, hkv⟩ := hcl j2 t4 ht4
          have HD := Lib.hid (fitL_drop (l := l) (f := i) ht4)
          have HKV := Lib.hid hkv
          obtain ⟨tn4, htn2⟩ : ∃ n, n = t4.n := ⟨_, rfl⟩
          obtain ⟨ts4, hts2⟩ : ∃ s, s = t4.s := ⟨_, rfl⟩
          obtain ⟨ko4, kcap4, rfl, -, -⟩ := hkv.shape
          obtain ⟨km4, hkm2⟩ : ∃ m, m = t4.k.length := ⟨_, rfl⟩
          have HVT := Lib.hid (fun wx (hk : Chg [] w1 wx) (hk2 : KidsAt wx d' t4.k (.slice ko4 t4.k.length kcap4)) => IH.out i t4 _ wx (by rw [← HN.out]; exact hlt) (HS.out.keep (HC1.out.trans hk (by simp))) (HP.out.keep (HC1.out.trans hk (by simp))) hk2)
          have HVU := Lib.hid (HVT.out _ HC4.out HKV.out)
          rw [← htn2, ← hts2, ← hkm2] at HVU
          rw [← htn2] at b1
          rw [← hts2] at b2
          rw [← hkm2] at b3
          clear hcl hkv htn2 hts2 hkm2 ht4 HVT HKV
          go_wp2_with fail
          (with_reducible refine HVU.out.mono ?_)
          rintro e w3 ⟨rfl, hk3⟩
          have HC3 := Lib.hid (HC4.out.trans hk3 (by simp)); have HC6 := Lib.hid (HC5.out.trans hk3 (by simp))
          obtain ⟨u, hu⟩ : ∃ u, u = fitV l i t4 := ⟨_, rfl⟩
          rw [← hu] at HD ⊢
          clear hk3 hu
          by_cases hu0 : u = 0
          · subst hu0
            go_wp2
            go_roundw
            case rel => exact ⟨j2 + 1, by go_num, by omega, HC6.out, by rw [HE4.out, HD.out]; rfl⟩
            case measure => simp [intOf]; omega
          · have e1 : (u != 0) = true := by simpa using hu0
            have E := Lib.hid (show V = u by rw [HE4.out, HD.out]; unfold orE; rw [if_pos hu0, if_pos hu0])
            go_wp2
            go_ret
            exact ⟨ret_int E.out.symm, HC1.out.trans HC3.out (by simp)⟩
        · have ej : j2 = q := by omega
          have E := Lib.hid (show V = fitG l (ks.drop (j + 1)) (K.drop (j + 1)) by rw [HE4.out, ej, HQX.out, fitL_end]; rfl)
          clear ej
          go_wp2
          go_roundw
          case rel => exact ⟨j + 1, i + 1, by go_num, by go_num, by omega, by omega, HJ2.out, HC4.out, E.out⟩
          case measure => simp [intOf]; omega
    · have d1 : decide ((1 : Int) < (q : Int)) = false := HHR.out.1.resolve_left (by decide)
      go_wp2
      go_loopw [12] (fun s wx => ∃ j2 : Nat, s = .int .i64 (j2 : Int) ∧ j2 ≤ q ∧ Chg [] wr wx ∧ V = orE (fitL l i (x.drop j2)) (fitG l (ks.drop (j + 1)) (K.drop (j + 1)))) (fun s _ => q - (intOf s).toNat)
      case atStart => exact ⟨0, rfl, Nat.zero_le _, Chg.refl _ _, HV3.out⟩
      case round =>
        obtain ⟨j2, rfl, hj2, hC4, hE4⟩ := hrel
        have HC5 := Lib.hid hC4; have HC4 := Lib.hid (HCW.out.trans hC4 (by simp)); have HE4 := Lib.hid hE4
        clear hC4 hE4
        by_cases hlt2 : j2 < q
        · obtain ⟨t4, ht4⟩ : ∃ t, x[j2]? = some t := ⟨_, List.getElem?_eq_getElem (by rw [← HQX.out]; exact hlt2)⟩
          obtain ⟨gl, loff, hle, hcl⟩ := ListAt.get (HLX.out _ HC5.out) (by omega)
          subst hle
          obtain ⟨kv4, b1, b2, b3, hkv⟩ := hcl j2 t4 ht4
          have HD := Lib.hid (fitL_drop (l := l) (f := i) ht4)
          have HKV := Lib.hid hkv
          obtain ⟨tn4, htn2⟩ : ∃ n, n = t4.n := ⟨_, rfl⟩
          obtain ⟨ts4, hts2⟩ : ∃ s, s = t4.s := ⟨_, rfl⟩
          obtain ⟨ko4, kcap4, rfl, -, -⟩ := hkv.shape
          obtain ⟨km4, hkm2⟩ : ∃ m, m = t4.k.length := ⟨_, rfl⟩
          have HVT := Lib.hid (fun wx (hk : Chg [] w1 wx) (hk2 : KidsAt wx d' t4.k (.slice ko4 t4.k.length kcap4)) => IH.out i t4 _ wx (by rw [← HN.out]; exact hlt) (HS.out.keep (HC1.out.trans hk (by simp))) (HP.out.keep (HC1.out.trans hk (by simp))) hk2)
          have HVU := Lib.hid (HVT.out _ HC4.out HKV.out)
          rw [← htn2, ← hts2, ← hkm2] at HVU
          rw [← htn2] at b1
          rw [← hts2] at b2
          rw [← hkm2] at b3
          clear hcl hkv htn2 hts2 hkm2 ht4 HVT HKV
          go_wp2_with fail
          (with_reducible refine HVU.out.mono ?_)
          rintro e w3 ⟨rfl, hk3⟩
          have HC3 := Lib.hid (HC4.out.trans hk3 (by simp)); have HC6 := Lib.hid (HC5.out.trans hk3 (by simp))
          obtain ⟨u, hu⟩ : ∃ u, u = fitV l i t4 := ⟨_, rfl⟩
          rw [← hu] at HD ⊢
          clear hk3 hu
          by_cases hu0 : u = 0
          · subst hu0
            go_wp2
            go_roundw
            case rel => exact ⟨j2 + 1, by go_num, by omega, HC6.out, by rw [HE4.out, HD.out]; rfl⟩
            case measure => simp [intOf]; omega
          · have e1 : (u != 0) = true := by simpa using hu0
            have E := Lib.hid (show V = u by rw [HE4.out, HD.out]; unfold orE; rw [if_pos hu0, if_pos hu0])
            go_wp2
            go_ret
            exact ⟨ret_int E.out.symm, HC1.out.trans HC3.out (by simp)⟩
        · have ej : j2 = q := by omega
          have E := Lib.hid (show V = fitG l (ks.drop (j + 1)) (K.drop (j + 1)) by rw [HE4.out, ej, HQX.out, fitL_end]; rfl)
          clear ej
          go_wp2
          go_roundw
          case rel => exact ⟨j + 1, i + 1, by go_num, by go_num, by omega, by omega, HJ2.out, HC4.out, E.out⟩
          case measure => simp [intOf]; omega
    · go_wp2
      go_loopw [12] (fun s wx => ∃ j2 : Nat, s = .int .i64 (j2 : Int) ∧ j2 ≤ q ∧ Chg [] wr wx ∧ V = orE (fitL l i (x.drop j2)) (fitG l (ks.drop (j + 1)) (K.drop (j + 1)))) (fun s _ => q - (intOf s).toNat)
      case atStart => exact ⟨0, rfl, Nat.zero_le _, Chg.refl _ _, HV3.out⟩
      case round =>
        obtain ⟨j2, rfl, hj2, hC4, hE4⟩ := hrel
        have HC5 := Lib.hid hC4; have HC4 := Lib.hid (HCW.out.trans hC4 (by simp)); have HE4 := Lib.hid hE4
        clear hC4 hE4
        by_cases hlt2 : j2 < q
        · obtain ⟨t4, ht4⟩ : ∃ t, x[j2]? = some t := ⟨_, List.getElem?_eq_getElem (by rw [← HQX.out]; exact hlt2)⟩
          obtain ⟨gl, loff, hle, hcl⟩ := ListAt.get (HLX.out _ HC5.out) (by omega)
          subst hle
          obtain ⟨kv4, b1, b2, b3, hkv⟩ := hcl j2 t4 ht4
          have HD := Lib.hid (fitL_drop (l := l) (f := i) ht4)
          have HKV := Lib.hid hkv
          obtain ⟨tn4, htn2⟩ : ∃ n, n = t4.n := ⟨_, rfl⟩
          obtain ⟨ts4, hts2⟩ : ∃ s, s = t4.s := ⟨_, rfl⟩
          obtain ⟨ko4, kcap4, rfl, -, -⟩ := hkv.shape
          obtain ⟨km4, hkm2⟩ : ∃ m, m = t4.k.length := ⟨_, rfl⟩
          have HVT := Lib.hid (fun wx (hk : Chg [] w1 wx) (hk2 : KidsAt wx d' t4.k (.slice ko4 t4.k.length kcap4)) => IH.out i t4 _ wx (by rw [← HN.out]; exact hlt) (HS.out.keep (HC1.out.trans hk (by simp))) (HP.out.keep (HC1.out.trans hk (by simp))) hk2)
          have HVU := Lib.hid (HVT.out _ HC4.out HKV.out)
          rw [← htn2, ← hts2, ← hkm2] at HVU
          rw [← htn2] at b1
          rw [← hts2] at b2
          rw [← hkm2] at b3
          clear hcl hkv htn2 hts2 hkm2 ht4 HVT HKV
          go_wp2_with fail
          (with_reducible refine HVU.out.mono ?_)
          rintro e w3 ⟨rfl, hk3⟩
          have HC3 := Lib.hid (HC4.out.trans hk3 (by simp)); have HC6 := Lib.hid (HC5.out.trans hk3 (by simp))
          obtain ⟨u, hu⟩ : ∃ u, u = fitV l i t4 := ⟨_, rfl⟩
          rw [← hu] at HD ⊢
          clear hk3 hu
          by_cases hu0 : u = 0
          · subst hu0
            go_wp2
            go_roundw
            case rel => exact ⟨j2 + 1, by go_num, by omega, HC6.out, by rw [HE4.out, HD.out]; rfl⟩
            case measure => simp [intOf]; omega
          · have e1 : (u != 0) = true := by simpa using hu0
            have E := Lib.hid (show V = u by rw [HE4.out, HD.out]; unfold orE; rw [if_pos hu0, if_pos hu0])
            go_wp2
            go_ret
            exact ⟨ret_int E.out.symm, HC1.out.trans HC3.out (by simp)⟩
        · have ej : j2 = q := by omega
          have E := Lib.hid (show V = fitG l (ks.drop (j + 1)) (K.drop (j + 1)) by rw [HE4.out, ej, HQX.out, fitL_end]; rfl)
          clear ej
          go_wp2
          go_roundw
          case rel => exact ⟨j + 1, i + 1, by go_num, by go_num, by omega, by omega, HJ2.out, HC4.out, E.out⟩
          case measure => simp [intOf]; omega

theorem rfits8_any (l : List F) (sv pv : Value) (hok : FitOk l) : ∀ d, RFit l sv pv d
  | 0 => fun f t kv w _ _ _ hT => hT.elim
  | d + 1 => rfits_step l sv pv d hok (rfits8_any l sv pv hok d)

end Go.Proofs.Ytkbfbiklnjldgaa
