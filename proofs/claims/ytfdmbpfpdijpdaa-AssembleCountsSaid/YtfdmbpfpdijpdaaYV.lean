/- Yv, Yw, Yx, Yy: texts of one group, one behind the other. -/
import Derived.Test.YtfdmbpfpdijpdaaYB
import Derived.Test.YtfdmbpfpdijpdaaYC
import Derived.Test.YtfdmbpfpdijpdaaA5
import Derived.Test.YtfdmbpfpdijpdaaKu
import Derived.Test.YtfdmbpfpdijpdaaRl
import Derived.Test.YtfdmbpfpdijpdaaA2
namespace Go.Proofs.Ytfdmbpfpdijpdaa
open Go.RowKit
set_option linter.unusedVariables false

set_option maxRecDepth 100000 in
set_option maxHeartbeats 2000000 in
theorem rleaf8_any (k n : Int) (s : ByteArray) (ao : Option Addr) (m cap : Nat) (w : World) (K : List (List Tr)) (hK : K.length = m) :
    Calls Try.prog 87 #[.int .i64 k, tv n s (.slice ao m cap)] w fun e w' => e = .returned (.int .i64 (leafE k (.mk n s K))) ∧ Chg [] w w' := by
  have HE := Lib.hid (show leafE k (.mk n s K) = if 0 < m ∨ (k = 4 ∧ n ≠ 0) ∨ (k ≠ 4 ∧ s ≠ ByteArray.empty) then 13 else if overB k n = true then 14 else if 100 < s.size then 5 else 0 by unfold leafE; rw [← hK]; rfl)
  have HA := Lib.hid ((Chg.refl [] w).alloc (.cells #[.int .i64 n, .string s, .slice ao m cap] 57))
  clear hK
  by_cases h1 : 0 < m
  · have d1 : decide ((0 : Int) < (m : Int)) = true := by simp; omega
    have E := Lib.hid (show leafE k (.mk n s K) = 13 by rw [HE.out, if_pos (.inl h1)])
    clear HE d1
    obtain ⟨b, hb⟩ : ∃ b, b = (k == 4) := ⟨_, rfl⟩
    have hb' := hb.symm
    clear hb
    go_enter Try.func87, Try.ntmps87
    go_wp2
    go_ret
    exact ⟨ret_int E.out.symm, HA.out⟩
  have hm0 : m = 0 := by omega
  subst hm0
  clear h1
  by_cases h4 : k = 4
  · subst h4
    by_cases hn0 : n = 0
    · subst hn0
      by_cases hz : 100 < s.size
      · have d5 : decide ((100 : Int) < (s.size : Int)) = true := by simp; omega
        have E := Lib.hid (show leafE 4 (.mk 0 s K) = 5 by rw [HE.out]; simp [overB, hz])
        clear HE hz
        go_enter Try.func87, Try.ntmps87
        go_wp2
        go_ret
        exact ⟨ret_int E.out.symm, HA.out⟩
      · have d5 : decide ((100 : Int) < (s.size : Int)) = false := by simp; omega
        have E := Lib.hid (show leafE 4 (.mk 0 s K) = 0 by rw [HE.out]; simp [overB, hz])
        clear HE hz
        go_enter Try.func87, Try.ntmps87
        go_wp2
        go_ret
        exact ⟨ret_int E.out.symm, HA.out⟩
    · have d3 : (n != 0) = true := by simpa using hn0
      have E := Lib.hid (show leafE 4 (.mk n s K) = 13 by rw [HE.out]; simp [hn0])
      clear HE
      go_enter Try.func87, Try.ntmps87
      go_wp2
      go_ret
      exact ⟨ret_int E.out.symm, HA.out⟩
  have e4 : (k == 4) = false := by simpa using h4
  have f4 : (k != 4) = true := by simpa using h4
  by_cases hs0 : s = ByteArray.empty
  case neg =>
    have hs1 : ¬ s.toList = [] := fun h => hs0 (empty_list.1 h)
    have hs2 : s.toList.isEmpty = false := by simpa using hs1
    have E := Lib.hid (show leafE k (.mk n s K) = 13 by rw [HE.out]; simp [h4, hs0])
    clear HE h4 hs0
    go_enter Try.func87, Try.ntmps87
    go_wp2
    go_ret
    exact ⟨ret_int E.out.symm, HA.out⟩
  subst hs0
  have HE2 := Lib.hid (show leafE k (.mk n ByteArray.empty K) = if overB k n = true then 14 else 0 by rw [HE.out]; simp [h4])
  rw [eS_eq] at HE2 HA ⊢
  clear HE
  by_cases h1 : k = 1
  · subst h1
    clear h4 e4 f4
    by_cases hlo : n < 0
    · have d1 : decide (n < 0) = true := by simpa using hlo
      have E := Lib.hid (show leafE 1 (.mk n eS K) = 14 by rw [HE2.out, if_pos (by unfold overB; rw [decide_eq_true_iff]; omega)])
      clear HE2
      go_enter Try.func87, Try.ntmps87
      go_wp2
      go_ret
      exact ⟨ret_int E.out.symm, HA.out⟩
    · have d1 : decide (n < 0) = false := by simpa using hlo
      by_cases hhi : 1 < n
      · have d2 : decide ((1 : Int) < n) = true := by simpa using hhi
        have E := Lib.hid (show leafE 1 (.mk n eS K) = 14 by rw [HE2.out, if_pos (by unfold overB; rw [decide_eq_true_iff]; omega)])
        clear HE2
        go_enter Try.func87, Try.ntmps87
        go_wp2
        go_ret
        exact ⟨ret_int E.out.symm, HA.out⟩
      · have d2 : decide ((1 : Int) < n) = false := by simpa using hhi
        have E := Lib.hid (show leafE 1 (.mk n eS K) = 0 by rw [HE2.out, if_neg (by unfold overB; rw [decide_eq_true_iff]; omega)])
        clear HE2
        go_enter Try.func87, Try.ntmps87
        go_wp2
        go_ret
        exact ⟨ret_int E.out.symm, HA.out⟩
  have e1 : (k == 1) = false := by simpa using h1
  by_cases h2 : k = 2
  · subst h2
    clear h4 e4 f4
    by_cases hlo : n < (-2147483648)
    · have d1 : decide (n < (-2147483648)) = true := by simpa using hlo
      have E := Lib.hid (show leafE 2 (.mk n eS K) = 14 by rw [HE2.out, if_pos (by unfold overB; rw [decide_eq_true_iff]; omega)])
      clear HE2
      go_enter Try.func87, Try.ntmps87
      go_wp2
      go_ret
      exact ⟨ret_int E.out.symm, HA.out⟩
    · have d1 : decide (n < (-2147483648)) = false := by simpa using hlo
      by_cases hhi : 2147483647 < n
      · have d2 : decide ((2147483647 : Int) < n) = true := by simpa using hhi
        have E := Lib.hid (show leafE 2 (.mk n eS K) = 14 by rw [HE2.out, if_pos (by unfold overB; rw [decide_eq_true_iff]; omega)])
        clear HE2
        go_enter Try.func87, Try.ntmps87
        go_wp2
        go_ret
        exact ⟨ret_int E.out.symm, HA.out⟩
      · have d2 : decide ((2147483647 : Int) < n) = false := by simpa using hhi
        have E := Lib.hid (show leafE 2 (.mk n eS K) = 0 by rw [HE2.out, if_neg (by unfold overB; rw [decide_eq_true_iff]; omega)])
        clear HE2
        go_enter Try.func87, Try.ntmps87
        go_wp2
        go_ret
        exact ⟨ret_int E.out.symm, HA.out⟩
  have e2 : (k == 2) = false := by simpa using h2
  have E := Lib.hid (show leafE k (.mk n eS K) = 0 by rw [HE2.out, if_neg (by unfold overB; rw [decide_eq_true_iff]; omega)])
  clear HE2 h1 h2 h4
  go_enter Try.func87, Try.ntmps87
  go_wp2
  go_ret
  exact ⟨ret_int E.out.symm, HA.out⟩

end Go.Proofs.Ytfdmbpfpdijpdaa

namespace Go.Proofs.Ytfdmbpfpdijpdaa
open Go.RowKit
set_option linter.unusedVariables false

theorem kidsU_at {ps : List Int} {f i : Nat} (h : ps.getD i 0 = (f : Int)) : ∀ m, i < m → (kidsU ps m f)[(kidsU ps i f).length]? = some (i : Int)
  | 0, hm => absurd hm (by omega)
  | m + 1, hm => by
    by_cases he : i = m
    · subst he
      rw [kidsU_succ, if_pos h, List.getElem?_append_right (Nat.le_refl _), Nat.sub_self]
      rfl
    · have ih := kidsU_at h m (by omega)
      rw [kidsU_succ]
      split
      · rw [List.getElem?_append_left (List.getElem?_eq_some_iff.1 ih).1]; exact ih
      · exact ih

/-- What the reference wants of a schema. -/
structure FitOk (l : List F) : Prop where
  c : ∀ f, f < l.length → (l.getD f default).k = 0 → (l.getD f default).c = ((kidsU (parents l) l.length f).length : Int)
  r : ∀ f, f < l.length → (l.getD f default).r = 0 ∨ (l.getD f default).r = 1 ∨ (l.getD f default).r = 2
  n : l.length ≤ 1000

theorem times_ok {r : Int} {q : Nat} (h : timesE r q = 0) (hr : r = 0 ∨ r = 1 ∨ r = 2) : (r = 0 ∧ q = 1) ∨ (r = 1 ∧ q ≤ 1) ∨ (r = 2 ∧ q ≤ 50) := by
  unfold timesE at h
  rcases hr with rfl | rfl | rfl
  · left
    refine ⟨rfl, ?_⟩
    rw [if_pos rfl] at h
    split at h <;> omega
  · right; left
    refine ⟨rfl, ?_⟩
    rw [if_neg (by decide), if_pos rfl] at h
    split at h <;> omega
  · right; right
    refine ⟨rfl, ?_⟩
    rw [if_neg (by decide), if_neg (by decide), if_pos rfl] at h
    split at h <;> omega

theorem times_no {r : Int} {q : Nat} (h : ¬ timesE r q = 0) (hr : r = 0 ∨ r = 1 ∨ r = 2) : (r = 0 ∧ 1 < q ∧ timesE r q = 13) ∨ (r = 0 ∧ q = 0 ∧ timesE r q = 13) ∨ (r = 1 ∧ 1 < q ∧ timesE r q = 13) ∨ (r = 2 ∧ 50 < q ∧ timesE r q = 4) := by
  unfold timesE at h ⊢
  rcases hr with rfl | rfl | rfl
  · rw [if_pos rfl] at h
    split at h
    · exact absurd rfl h
    · rename_i h1
      by_cases h2 : 1 < q
      · exact .inl ⟨rfl, h2, by rw [if_pos rfl, if_neg h1]⟩
      · exact .inr (.inl ⟨rfl, by omega, by rw [if_pos rfl, if_neg h1]⟩)
  · rw [if_neg (by decide), if_pos rfl] at h
    split at h
    · exact absurd rfl h
    · rename_i h1
      exact .inr (.inr (.inl ⟨rfl, by omega, by rw [if_neg (by decide), if_pos rfl, if_neg h1]⟩))
  · rw [if_neg (by decide), if_neg (by decide), if_pos rfl] at h
    split at h
    · exact absurd rfl h
    · rename_i h1
      exact .inr (.inr (.inr ⟨rfl, by omega, by rw [if_neg (by decide), if_neg (by decide), if_pos rfl, if_neg h1]⟩))

def RFit (l : List F) (sv pv : Value) (d : Nat) : Prop := ∀ (f : Nat) (t : Tr) (kv : Value) (w : World), f < l.length → SeenF w sv l → SeenI w pv (parents l) → KidsAt w d t.k kv →
  Calls Try.prog 53 #[sv, pv, .int .i64 (f : Int), tv t.n t.s kv] w fun e w' => e = .returned (.int .i64 (fitV l f t)) ∧ Chg [] w w'

set_option maxRecDepth 100000 in
set_option maxHeartbeats 4000000 in
theorem rfits_step (l : List F) (sv pv : Value) (d : Nat) (hok : FitOk l) (ih : RFit l sv pv d) : RFit l sv pv (d + 1) := by
  intro f t kv w hf hS hP hT
  obtain ⟨ao, cap, rfl, hc1, hc2⟩ := hS.shape
  obtain ⟨po, pcap, rfl, hp1, hp2⟩ := hP.shape
  obtain ⟨ko, kcap, rfl, hl1, hl2⟩ := hT.shape
  have HS := Lib.hid hS; have HP := Lib.hid hP; have HT := Lib.hid hT; have IH := Lib.hid ih; have HOK := Lib.hid hok
  obtain ⟨n, hn⟩ : ∃ n, n = l.length := ⟨_, rfl⟩
  have hpl : (parents l).length = n := by rw [parents_length, hn]
  rw [hpl] at hp1 HP IH ⊢
  rw [← hn] at hf hc1 HS IH ⊢
  have hn1 : n ≤ 1000 := by rw [hn]; exact hok.n
  obtain ⟨m, hm⟩ : ∃ m, m = t.k.length := ⟨_, rfl⟩
  obtain ⟨tn, htn⟩ : ∃ n, n = t.n := ⟨_, rfl⟩
  obtain ⟨ts, hts⟩ : ∃ s, s = t.s := ⟨_, rfl⟩
  obtain ⟨K, hK⟩ : ∃ k, k = t.k := ⟨_, rfl⟩
  obtain ⟨ks, hks⟩ : ∃ ks, ks = kidsU (parents l) l.length f := ⟨_, rfl⟩
  obtain ⟨k, hk⟩ : ∃ k, k = (l.getD f default).k := ⟨_, rfl⟩
  obtain ⟨c, hc⟩ : ∃ c, c = (l.getD f default).c := ⟨_, rfl⟩
  obtain ⟨V, hV⟩ : ∃ V, V = fitV l f t := ⟨_, rfl⟩
  have HL := Lib.hid (show k ≠ 0 → V = leafE k (.mk tn ts K) from fun h => by rw [hV, fitV_leaf (by rw [← hk]; exact h), hk, htn, hts, hK, ← t.eta])
  have HG := Lib.hid (show k = 0 → V = if tn ≠ 0 ∨ ts ≠ ByteArray.empty ∨ m ≠ ks.length then 13 else fitG l ks K from fun h => by rw [hV, fitV_group (by rw [← hk]; exact h), htn, hts, hm, hks, hK])
  have HC := Lib.hid (show k = 0 → c = (ks.length : Int) from fun h => by rw [hc, hks]; exact hok.c f (by rw [← hn]; exact hf) (by rw [← hk]; exact h))
  rw [← hV]
  rw [← hm] at hl1 HT ⊢
  rw [← htn, ← hts]
  rw [← hK] at HT
  have HM := Lib.hid (show m = K.length by rw [hm, hK])
  have HKS := Lib.hid hks; have HN := Lib.hid hn; have HPL := Lib.hid hpl; have HKD := Lib.hid hk; have HCD := Lib.hid hc
  have hmx : m ≤ maxLen := by omega
  have hmx2 : m ≤ 9223372036854775807 := by unfold maxLen at hmx; omega
  obtain ⟨w1, hw1⟩ : ∃ w1, w1 = w.alloc (.cells #[.int .i64 tn, .string ts, .slice ko m kcap] 57) := ⟨_, rfl⟩
  obtain ⟨b, hb⟩ : ∃ b, b = w.heap.size := ⟨_, rfl⟩
  have HC1 := Lib.hid (show Chg [] w w1 by rw [hw1]; exact (Chg.refl [] w).alloc _)
  have ht0 : w1.cell? ⟨b, 0, none⟩ = some (.int .i64 tn) := by rw [hw1, hb]; simp
  have ht1 : w1.cell? ⟨b, 1, none⟩ = some (.string ts) := by rw [hw1, hb]; simp
  have ht2 : w1.cell? ⟨b, 2, none⟩ = some (.slice ko m kcap) := by rw [hw1, hb]; simp
  have HW1 := Lib.hid hw1; have HB := Lib.hid hb
  obtain ⟨gs, off, rfl, hcs⟩ := SeenF.get (HS.out.keep HC1.out) (by omega) HN.out.symm
  obtain ⟨-, -, a3, a4⟩ := hcs f hf
  rw [← HKD.out] at a3
  rw [← HCD.out] at a4
  have HT2 := Lib.hid ht2
  clear hS hP hT ih hok hn hpl hm htn hts hK hks hk hc hV hw1 hb hcs
  go_enter Try.func53, Try.ntmps53
  go_upto_region 1 with fail
  rw [← HB.out, ← HW1.out]
  by_cases h0 : k = 0
  case neg =>
    have e0 : (k != 0) = true := by simpa using h0
    have E := Lib.hid (HL.out h0)
    clear h0
    go_upto_region 2 with fail
    go_still_tail 6, (by kernel_rfl)
    change wpList _ _ _ _ _ _
    go_wp2_with (first
      | (go_at_call 87; (with_reducible refine (rleaf8_any k tn ts ko m kcap _ K HM.out.symm).mono ?_); rintro e w3 ⟨rfl, hk3⟩; have HC3 := Lib.hid (HC1.out.trans ((Chg.refl [] _).drew.trans hk3 (by simp)) (by simp)); clear hk3)
      | fail)
    go_ret
    exact ⟨ret_int E.out.symm, HC3.out⟩
  subst h0
  have HG2 := Lib.hid (HG.out rfl); have hcc := HC.out rfl
  obtain ⟨q, hq⟩ : ∃ q, q = ks.length := ⟨_, rfl⟩
  rw [← hq] at hcc HG2
  subst hcc
  have HQ := Lib.hid hq
  clear HL HG HC hq
  by_cases hn0 : tn = 0
  case neg =>
    have e0 : (tn != 0) = true := by simpa using hn0
    have E := Lib.hid (show V = 13 by rw [HG2.out, if_pos (.inl hn0)])
    clear hn0
    go_upto_region 3 with fail
    go_quiet (fail)
    go_wp2
    go_ret
    exact ⟨ret_int E.out.symm, HC1.out.drewN _⟩
  subst hn0
  by_cases hs0 : ts = ByteArray.empty
  case neg =>
    have hs1 : ¬ ts.toList = [] := fun h => hs0 (empty_list.1 h)
    have hs2 : ts.toList.isEmpty = false := by simpa using hs1
    have E := Lib.hid (show V = 13 by rw [HG2.out, if_pos (.inr (.inl hs0))])
    clear hs0
    go_upto_region 3 with fail
    go_quiet (fail)
    go_wp2
    go_ret
    exact ⟨ret_int E.out.symm, HC1.out.drewN _⟩
  have HTS := Lib.hid hs0
  have hts2 : ts = eS := hs0
  subst hts2
  clear hs0
  by_cases hmq : m = q
  case neg =>
    have e0 : ((m : Int) != (q : Int)) = true := by simp; omega
    have E := Lib.hid (show V = 13 by rw [HG2.out, if_pos (.inr (.inr hmq))])
    clear hmq
    go_upto_region 3 with fail
    go_quiet (fail)
    go_wp2
    go_ret
    exact ⟨ret_int E.out.symm, HC1.out.drewN _⟩
  subst hmq
  have HG3 := Lib.hid (show V = fitG l ks K by
    rw [HG2.out, if_neg (by
      rintro (h | h | h)
      · exact h rfl
      · exact h HTS.out
      · exact h rfl)])
  have HLOW := Lib.hid (show (kidsU (parents l) (f + 1) f).length = 0 by rw [kidsU_low l f (f + 1) (Nat.le_refl _) (by rw [← HN.out]; exact hf)]; rfl)
  clear HG2
  have hfw : IntKind.i64.wrap ((f : Int) + 1) = (f : Int) + 1 := IntWalk.i64_in _ (by omega)
  have e0 : ((m : Int) != (m : Int)) = false := by simp
  go_upto_region 3 with fail
  go_quiet (fail)
  go_wp2
  go_loopw [9, 10] (fun s x wx => ∃ j i : Nat, s = .int .i64 (j : Int) ∧ x = .int .i64 (i : Int) ∧ f + 1 ≤ i ∧ i ≤ n ∧ j = (kidsU (parents l) i f).length ∧ Chg [] w1 wx ∧ V = fitG l (ks.drop j) (K.drop j)) (fun _ x _ => n - (intOf x).toNat)
  case atStart => exact ⟨0, f + 1, rfl, by go_num, Nat.le_refl _, hf, HLOW.out.symm, (Chg.refl [] w1).drewN _, HG3.out⟩
  case round =>
    obtain ⟨j, i, rfl, rfl, hfi, hin, hj, hC, hV⟩ := hrel
    have HCW := Lib.hid hC; have HV := Lib.hid hV; have HJ := Lib.hid hj
    have ht2 := hC.cell HT2.out (by simp)
    have hjn : j ≤ n := by rw [hj]; exact Nat.le_trans (kidsU_len _ _ _) hin
    clear hj hC hV
    have hiw : IntKind.i64.wrap ((i : Int) + 1) = (i : Int) + 1 := IntWalk.i64_in _ (by omega)
    have hjw : IntKind.i64.wrap ((j : Int) + 1) = (j : Int) + 1 := IntWalk.i64_in _ (by omega)
    by_cases hlt : i < n
    case neg =>
      have E := Lib.hid (show V = 0 by
        have h1 := HV.out
        have h2 := HJ.out
        have h3 := HQ.out
        have h4 := HM.out
        have hie : i = n := by omega
        rw [hie, HN.out, ← HKS.out, ← h3] at h2
        rw [h2, h4, fitG_end] at h1
        exact h1)
      go_wp2
      go_ret
      exact ⟨ret_int E.out.symm, HC1.out.trans HCW.out (by simp)⟩
    obtain ⟨gp, poff, rfl, hpc⟩ := SeenI.get (HP.out.keep (HC1.out.trans HCW.out (by simp))) (by omega) HPL.out
    have hpi := hpc i hlt
    obtain ⟨g, hg⟩ : ∃ g, g = (parents l).getD i 0 := ⟨_, rfl⟩
    rw [← hg] at hpi
    have HGG := Lib.hid hg
    clear hpc hg
    by_cases hgf : g = (f : Int)
    case neg =>
      have d1 : (g != (f : Int)) = true := by simpa using hgf
      have HJ2 := Lib.hid (show j = (kidsU (parents l) (i + 1) f).length by rw [kidsU_succ, if_neg (by rw [← HGG.out]; exact hgf)]; exact HJ.out)
      clear hgf
      go_wp2
      go_roundw
      case rel => exact ⟨j, i + 1, rfl, by go_num, by omega, by omega, HJ2.out, HCW.out, HV.out⟩
      case measure => simp [intOf]; omega
    subst hgf
    have hks := kidsU_at (m := l.length) HGG.out.symm (by rw [← HN.out]; exact hlt)
    rw [← HKS.out, ← HJ.out] at hks
    have hjm : j < m := by rw [HQ.out]; exact (List.getElem?_eq_some_iff.1 hks).1
    obtain ⟨x, hx⟩ : ∃ x, K[j]? = some x := ⟨_, List.getElem?_eq_getElem (by rw [← HM.out]; exact hjm)⟩
    have HJ2 := Lib.hid (show j + 1 = (kidsU (parents l) (i + 1) f).length by rw [kidsU_succ, if_pos HGG.out.symm, List.length_append, ← HJ.out]; rfl)
    have HV2 := Lib.hid (show V = orE (orE (timesE (l.getD i default).r x.length) (fitL l i x)) (fitG l (ks.drop (j + 1)) (K.drop (j + 1))) by rw [HV.out, fitG_drop hx hks]; rfl)
    obtain ⟨d', gk, koff, hdd, rfl, hck⟩ := KidsAt.get (HT.out.keep (HC1.out.trans HCW.out (by simp))) (by omega)
    have hdd2 : d' = d := by omega
    subst hdd2
    obtain ⟨lv, hlc, hll⟩ := hck j x hx
    obtain ⟨lo, lcap, rfl, hq1, hq2⟩ := hll.shape
    obtain ⟨q, hqx⟩ : ∃ q, q = x.length := ⟨_, rfl⟩
    rw [← hqx] at hlc hll hq1 HV2
    have HQX := Lib.hid hqx; have HX := Lib.hid hx
    have HLX := Lib.hid (fun wx (hk : Chg [] wr wx) => show ListAt wx d' x (.slice lo q lcap) from hll.keep hk)
    have hqm : q ≤ 9223372036854775807 := by unfold maxLen at hq2; omega
    obtain ⟨gs', off', he', hcs2⟩ := SeenF.get (HS.out.keep (HC1.out.trans HCW.out (by simp))) (by omega) HN.out.symm
    injection he' with he'
    injection he' with he1 he2
    subst he1 he2
    obtain ⟨-, a2, -, -⟩ := hcs2 i hlt
    have hr := HOK.out.r i (by rw [← HN.out]; exact hlt)
    obtain ⟨r, hrr⟩ : ∃ r, r = (l.getD i default).r := ⟨_, rfl⟩
    rw [← hrr] at a2 hr HV2
    clear hks hck hll hx hqx hcs2 hrr hdd HV HJ HGG
    by_cases htm : timesE r q = 0
    case neg =>
      obtain ⟨hr', hv'⟩ : ∃ v, timesE r q = v ∧ v ≠ 0 := ⟨_, rfl, htm⟩
      have HVE := Lib.hid (show V = timesE r q by rw [HV2.out]; unfold orE; rw [if_pos htm, if_pos htm])
      rcases times_no htm hr with ⟨rfl, hq5, ht5⟩ | ⟨rfl, rfl, ht5⟩ | ⟨rfl, hq5, ht5⟩ | ⟨rfl, hq5, ht5⟩
      · have d1 : decide ((1 : Int) < (q : Int)) = true := by simp; omega
        have E := Lib.hid (show V = 13 by rw [HVE.out, ht5])
        clear htm ht5 hv' hr HVE HV2
        go_wp2
        go_ret
        exact ⟨ret_int E.out.symm, HC1.out.trans HCW.out (by simp)⟩
      · have E := Lib.hid (show V = 13 by rw [HVE.out, ht5])
        clear htm ht5 hv' hr HVE HV2
        go_wp2
        go_ret
        exact ⟨ret_int E.out.symm, HC1.out.trans HCW.out (by simp)⟩
      · have d1 : decide ((1 : Int) < (q : Int)) = true := by simp; omega
        have E := Lib.hid (show V = 13 by rw [HVE.out, ht5])
        clear htm ht5 hv' hr HVE HV2
        go_wp2
        go_ret
        exact ⟨ret_int E.out.symm, HC1.out.trans HCW.out (by simp)⟩
      · have d1 : decide ((50 : Int) < (q : Int)) = true := by simp; omega
        have E := Lib.hid (show V = 4 by rw [HVE.out, ht5])
        clear htm ht5 hv' hr HVE HV2
        go_wp2
        go_ret
        exact ⟨ret_int E.out.symm, HC1.out.trans HCW.out (by simp)⟩
    have HV3 := Lib.hid (show V = orE (fitL l i x) (fitG l (ks.drop (j + 1)) (K.drop (j + 1))) by rw [HV2.out, htm]; rfl)
    have hpass := times_ok htm hr
    have d50 : decide ((50 : Int) < (q : Int)) = false := by simp; omega
    have HRQ : (r = 2 ∨ decide ((1 : Int) < (q : Int)) = false) ∧ (r = 0 → ((q : Int) != 1) = false) := by
      rcases hpass with ⟨h1, h2⟩ | ⟨h1, h2⟩ | ⟨h1, h2⟩
      · exact ⟨.inr (by simp; omega), fun _ => by simp; omega⟩
      · exact ⟨.inr (by simp; omega), fun h => by omega⟩
      · exact ⟨.inl h1, fun h => by omega⟩
    have HHR := Lib.hid HRQ
    clear htm hpass HRQ HV2
    rcases hr with rfl | rfl | rfl
    · have d1 : decide ((1 : Int) < (q : Int)) = false := HHR.out.1.resolve_left (by decide)
      have d2 : ((q : Int) != 1) = false := HHR.out.2 rfl
      go_wp2
      go_loopw [12] (fun s wx => ∃ j2 : Nat, s = .int .i64 (j2 : Int) ∧ j2 ≤ q ∧ Chg [] wr wx ∧ V = orE (fitL l i (x.drop j2)) (fitG l (ks.drop (j + 1)) (K.drop (j + 1)))) (fun s _ => q - (intOf s).toNat)
      case atStart => exact ⟨0, rfl, Nat.zero_le _, Chg.refl _ _, HV3.out⟩
      case round =>
        obtain ⟨j2, rfl, hj2, hC4, hE4⟩ := hrel
        have HC5 := Lib.hid hC4; have HC4 := Lib.hid (HCW.out.trans hC4 (by simp)); have HE4 := Lib.hid hE4
        clear hC4 hE4
        by_cases hlt2 : j2 < q
        · obtain ⟨t4, ht4⟩ : ∃ t, x[j2]? = some t := ⟨_, List.getElem?_eq_getElem (by rw [← HQX.out]; exact hlt2)⟩
          obtain ⟨gl, loff, hle, hcl⟩ := ListAt.get (HLX.out _ HC5.out) (by omega)
          subst hle
          obtain ⟨kv4, b1, b2, b3, hkv⟩ := hcl j2 t4 ht4
          have HD := Lib.hid (fitL_drop (l := l) (f := i) ht4)
          have HKV := Lib.hid hkv
          obtain ⟨tn4, htn2⟩ : ∃ n, n = t4.n := ⟨_, rfl⟩
          obtain ⟨ts4, hts2⟩ : ∃ s, s = t4.s := ⟨_, rfl⟩
          obtain ⟨ko4, kcap4, rfl, -, -⟩ := hkv.shape
          obtain ⟨km4, hkm2⟩ : ∃ m, m = t4.k.length := ⟨_, rfl⟩
          have HVT := Lib.hid (fun wx (hk : Chg [] w1 wx) (hk2 : KidsAt wx d' t4.k (.slice ko4 t4.k.length kcap4)) => IH.out i t4 _ wx (by rw [← HN.out]; exact hlt) (HS.out.keep (HC1.out.trans hk (by simp))) (HP.out.keep (HC1.out.trans hk (by simp))) hk2)
          have HVU := Lib.hid (HVT.out _ HC4.out HKV.out)
          rw [← htn2, ← hts2, ← hkm2] at HVU
          rw [← htn2] at b1
          rw [← hts2] at b2
          rw [← hkm2] at b3
          clear hcl hkv htn2 hts2 hkm2 ht4 HVT HKV
          go_wp2_with fail
          (with_reducible refine HVU.out.mono ?_)
          rintro e w3 ⟨rfl, hk3⟩
          have HC3 := Lib.hid (HC4.out.trans hk3 (by simp)); have HC6 := Lib.hid (HC5.out.trans hk3 (by simp))
          obtain ⟨u, hu⟩ : ∃ u, u = fitV l i t4 := ⟨_, rfl⟩
          rw [← hu] at HD ⊢
          clear hk3 hu
          by_cases hu0 : u = 0
          · subst hu0
            go_wp2
            go_roundw
            case rel => exact ⟨j2 + 1, by go_num, by omega, HC6.out, by rw [HE4.out, HD.out]; rfl⟩
            case measure => simp [intOf]; omega
          · have e1 : (u != 0) = true := by simpa using hu0
            have E := Lib.hid (show V = u by rw [HE4.out, HD.out]; unfold orE; rw [if_pos hu0, if_pos hu0])
            go_wp2
            go_ret
            exact ⟨ret_int E.out.symm, HC1.out.trans HC3.out (by simp)⟩
        · have ej : j2 = q := by omega
          have E := Lib.hid (show V = fitG l (ks.drop (j + 1)) (K.drop (j + 1)) by rw [HE4.out, ej, HQX.out, fitL_end]; rfl)
          clear ej
          go_wp2
          go_roundw
          case rel => exact ⟨j + 1, i + 1, by go_num, by go_num, by omega, by omega, HJ2.out, HC4.out, E.out⟩
          case measure => simp [intOf]; omega
    · have d1 : decide ((1 : Int) < (q : Int)) = false := HHR.out.1.resolve_left (by decide)
      go_wp2
      go_loopw [12] (fun s wx => ∃ j2 : Nat, s = .int .i64 (j2 : Int) ∧ j2 ≤ q ∧ Chg [] wr wx ∧ V = orE (fitL l i (x.drop j2)) (fitG l (ks.drop (j + 1)) (K.drop (j + 1)))) (fun s _ => q - (intOf s).toNat)
      case atStart => exact ⟨0, rfl, Nat.zero_le _, Chg.refl _ _, HV3.out⟩
      case round =>
        obtain ⟨j2, rfl, hj2, hC4, hE4⟩ := hrel
        have HC5 := Lib.hid hC4; have HC4 := Lib.hid (HCW.out.trans hC4 (by simp)); have HE4 := Lib.hid hE4
        clear hC4 hE4
        by_cases hlt2 : j2 < q
        · obtain ⟨t4, ht4⟩ : ∃ t, x[j2]? = some t := ⟨_, List.getElem?_eq_getElem (by rw [← HQX.out]; exact hlt2)⟩
          obtain ⟨gl, loff, hle, hcl⟩ := ListAt.get (HLX.out _ HC5.out) (by omega)
          subst hle
          obtain ⟨kv4, b1, b2, b3, hkv⟩ := hcl j2 t4 ht4
          have HD := Lib.hid (fitL_drop (l := l) (f := i) ht4)
          have HKV := Lib.hid hkv
          obtain ⟨tn4, htn2⟩ : ∃ n, n = t4.n := ⟨_, rfl⟩
          obtain ⟨ts4, hts2⟩ : ∃ s, s = t4.s := ⟨_, rfl⟩
          obtain ⟨ko4, kcap4, rfl, -, -⟩ := hkv.shape
          obtain ⟨km4, hkm2⟩ : ∃ m, m = t4.k.length := ⟨_, rfl⟩
          have HVT := Lib.hid (fun wx (hk : Chg [] w1 wx) (hk2 : KidsAt wx d' t4.k (.slice ko4 t4.k.length kcap4)) => IH.out i t4 _ wx (by rw [← HN.out]; exact hlt) (HS.out.keep (HC1.out.trans hk (by simp))) (HP.out.keep (HC1.out.trans hk (by simp))) hk2)
          have HVU := Lib.hid (HVT.out _ HC4.out HKV.out)
          rw [← htn2, ← hts2, ← hkm2] at HVU
          rw [← htn2] at b1
          rw [← hts2] at b2
          rw [← hkm2] at b3
          clear hcl hkv htn2 hts2 hkm2 ht4 HVT HKV
          go_wp2_with fail
          (with_reducible refine HVU.out.mono ?_)
          rintro e w3 ⟨rfl, hk3⟩
          have HC3 := Lib.hid (HC4.out.trans hk3 (by simp)); have HC6 := Lib.hid (HC5.out.trans hk3 (by simp))
          obtain ⟨u, hu⟩ : ∃ u, u = fitV l i t4 := ⟨_, rfl⟩
          rw [← hu] at HD ⊢
          clear hk3 hu
          by_cases hu0 : u = 0
          · subst hu0
            go_wp2
            go_roundw
            case rel => exact ⟨j2 + 1, by go_num, by omega, HC6.out, by rw [HE4.out, HD.out]; rfl⟩
            case measure => simp [intOf]; omega
          · have e1 : (u != 0) = true := by simpa using hu0
            have E := Lib.hid (show V = u by rw [HE4.out, HD.out]; unfold orE; rw [if_pos hu0, if_pos hu0])
            go_wp2
            go_ret
            exact ⟨ret_int E.out.symm, HC1.out.trans HC3.out (by simp)⟩
        · have ej : j2 = q := by omega
          have E := Lib.hid (show V = fitG l (ks.drop (j + 1)) (K.drop (j + 1)) by rw [HE4.out, ej, HQX.out, fitL_end]; rfl)
          clear ej
          go_wp2
          go_roundw
          case rel => exact ⟨j + 1, i + 1, by go_num, by go_num, by omega, by omega, HJ2.out, HC4.out, E.out⟩
          case measure => simp [intOf]; omega
    · go_wp2
      go_loopw [12] (fun s wx => ∃ j2 : Nat, s = .int .i64 (j2 : Int) ∧ j2 ≤ q ∧ Chg [] wr wx ∧ V = orE (fitL l i (x.drop j2)) (fitG l (ks.drop (j + 1)) (K.drop (j + 1)))) (fun s _ => q - (intOf s).toNat)
      case atStart => exact ⟨0, rfl, Nat.zero_le _, Chg.refl _ _, HV3.out⟩
      case round =>
        obtain ⟨j2, rfl, hj2, hC4, hE4⟩ := hrel
        have HC5 := Lib.hid hC4; have HC4 := Lib.hid (HCW.out.trans hC4 (by simp)); have HE4 := Lib.hid hE4
        clear hC4 hE4
        by_cases hlt2 : j2 < q
        · obtain ⟨t4, ht4⟩ : ∃ t, x[j2]? = some t := ⟨_, List.getElem?_eq_getElem (by rw [← HQX.out]; exact hlt2)⟩
          obtain ⟨gl, loff, hle, hcl⟩ := ListAt.get (HLX.out _ HC5.out) (by omega)
          subst hle
          obtain ⟨kv4, b1, b2, b3, hkv⟩ := hcl j2 t4 ht4
          have HD := Lib.hid (fitL_drop (l := l) (f := i) ht4)
          have HKV := Lib.hid hkv
          obtain ⟨tn4, htn2⟩ : ∃ n, n = t4.n := ⟨_, rfl⟩
          obtain ⟨ts4, hts2⟩ : ∃ s, s = t4.s := ⟨_, rfl⟩
          obtain ⟨ko4, kcap4, rfl, -, -⟩ := hkv.shape
          obtain ⟨km4, hkm2⟩ : ∃ m, m = t4.k.length := ⟨_, rfl⟩
          have HVT := Lib.hid (fun wx (hk : Chg [] w1 wx) (hk2 : KidsAt wx d' t4.k (.slice ko4 t4.k.length kcap4)) => IH.out i t4 _ wx (by rw [← HN.out]; exact hlt) (HS.out.keep (HC1.out.trans hk (by simp))) (HP.out.keep (HC1.out.trans hk (by simp))) hk2)
          have HVU := Lib.hid (HVT.out _ HC4.out HKV.out)
          rw [← htn2, ← hts2, ← hkm2] at HVU
          rw [← htn2] at b1
          rw [← hts2] at b2
          rw [← hkm2] at b3
          clear hcl hkv htn2 hts2 hkm2 ht4 HVT HKV
          go_wp2_with fail
          (with_reducible refine HVU.out.mono ?_)
          rintro e w3 ⟨rfl, hk3⟩
          have HC3 := Lib.hid (HC4.out.trans hk3 (by simp)); have HC6 := Lib.hid (HC5.out.trans hk3 (by simp))
          obtain ⟨u, hu⟩ : ∃ u, u = fitV l i t4 := ⟨_, rfl⟩
          rw [← hu] at HD ⊢
          clear hk3 hu
          by_cases hu0 : u = 0
          · subst hu0
            go_wp2
            go_roundw
            case rel => exact ⟨j2 + 1, by go_num, by omega, HC6.out, by rw [HE4.out, HD.out]; rfl⟩
            case measure => simp [intOf]; omega
          · have e1 : (u != 0) = true := by simpa using hu0
            have E := Lib.hid (show V = u by rw [HE4.out, HD.out]; unfold orE; rw [if_pos hu0, if_pos hu0])
            go_wp2
            go_ret
            exact ⟨ret_int E.out.symm, HC1.out.trans HC3.out (by simp)⟩
        · have ej : j2 = q := by omega
          have E := Lib.hid (show V = fitG l (ks.drop (j + 1)) (K.drop (j + 1)) by rw [HE4.out, ej, HQX.out, fitL_end]; rfl)
          clear ej
          go_wp2
          go_roundw
          case rel => exact ⟨j + 1, i + 1, by go_num, by go_num, by omega, by omega, HJ2.out, HC4.out, E.out⟩
          case measure => simp [intOf]; omega

theorem rfits8_any (l : List F) (sv pv : Value) (hok : FitOk l) : ∀ d, RFit l sv pv d
  | 0 => fun f t kv w _ _ _ hT => hT.elim
  | d + 1 => rfits_step l sv pv d hok (rfits8_any l sv pv hok d)

end Go.Proofs.Ytfdmbpfpdijpdaa

namespace Go.Proofs.Ytfdmbpfpdijpdaa
open Go.RowKit
set_option linter.unusedVariables false

theorem kidsU_count (ps : List Int) (g : Nat) : ∀ m, m ≤ ps.length → (kidsU ps m g).length = (ps.take m).count (g : Int)
  | 0, _ => rfl
  | m + 1, h => by
    have hx : ps[m]? = some (ps.getD m 0) := by rw [List.getD, List.getElem?_eq_getElem (by omega)]; rfl
    rw [kidsU_succ, List.take_add_one, List.count_append, hx, Option.toList_some]
    split
    · rename_i he
      rw [List.length_append, kidsU_count ps g m (by omega), he]
      simp
    · rename_i he
      have hb : (ps.getD m 0 == (g : Int)) = false := beq_false_of_ne he
      rw [kidsU_count ps g m (by omega), List.count_singleton, hb]
      rfl

theorem chk_fit {l : List F} (h : chk l = 0) : FitOk l := by
  have hl := chk_len h
  have hg := chk_good h
  have hk : ∀ f, f < l.length → knownB (l.getD f default) = true ∧ haveB (l.getD f default) = true := by
    intro f hf
    have h1 := hg f hf
    unfold faultN at h1
    split at h1
    · cases h1
    · split at h1
      · cases h1
      · split at h1
        · cases h1
        · split at h1
          · cases h1
          · rename_i h2
            split at h1
            · cases h1
            · rename_i h3
              exact ⟨by cases hx : knownB (l.getD f default) <;> simp_all, by cases hx : haveB (l.getD f default) <;> simp_all⟩
  have hla : lacksB l (parents l) = false := by
    unfold chk at h
    rw [if_neg (by omega)] at h
    split at h
    · rename_i h1; exact absurd h h1
    · split at h
      · cases h
      · rename_i h2; cases hx : lacksB l (parents l) <;> simp_all
  refine ⟨fun f hf hk0 => ?_, fun f hf => ?_, by omega⟩
  · have h1 := (hk f hf).2
    unfold haveB at h1
    rw [if_pos hk0, decide_eq_true_iff] at h1
    have h2 := parents_count l f
    have h3 : ¬ fewB l (parents l) f = true := by
      unfold lacksB at hla
      rw [List.any_eq_false] at hla
      exact hla f (by simpa using hf)
    unfold fewB at h3
    rw [decide_eq_true_iff] at h3
    have h4 : ((parents l).drop 1).count (f : Int) ≤ (parents l).count (f : Int) := (List.drop_sublist 1 _).count_le _
    have h5 := kidsU_count (parents l) f l.length (by rw [parents_length]; exact Nat.le_refl _)
    rw [List.take_of_length_le (by rw [parents_length]; exact Nat.le_refl _)] at h5
    omega
  · have h1 := (hk f hf).1
    unfold knownB at h1
    simp only [Bool.and_eq_true, decide_eq_true_iff] at h1
    omega

set_option maxRecDepth 100000 in
set_option maxHeartbeats 1000000 in
theorem rfitsTop_any (sv kv : Value) (l : List F) (t : Tr) (d : Nat) (w : World) (hS : SeenF w sv l) (hT : KidsAt w d t.k kv) (hl0 : 0 < l.length) (hok : FitOk l) (hw : ∀ f ∈ l, f.c ≤ 9223372036854775807) :
    Calls Try.prog 26 #[sv, tv t.n t.s kv] w fun e w' => e = .returned (.int .i64 (fitV l 0 t)) ∧ Chg [] w w' := by
  obtain ⟨ao, cap, rfl, hc1, hc2⟩ := hS.shape
  obtain ⟨ko, kcap, rfl, -, -⟩ := hT.shape
  have hn := hok.n
  obtain ⟨W0, hW0⟩ : ∃ W0, W0 = w.alloc (.cells #[.int .i64 t.n, .string t.s, .slice ko t.k.length kcap] 57) := ⟨_, rfl⟩
  obtain ⟨b, hb⟩ : ∃ b, b = w.heap.size := ⟨_, rfl⟩
  have hC0 : Chg [] w W0 := by rw [hW0]; exact (Chg.refl [] w).alloc _
  have HPR := Lib.hid (show W0.cell? ⟨b, 0, none⟩ = some (.int .i64 t.n) ∧ W0.cell? ⟨b, 1, none⟩ = some (.string t.s) ∧ W0.cell? ⟨b, 2, none⟩ = some (.slice ko t.k.length kcap) by rw [hW0, hb]; simp)
  have HRP := Lib.hid (fun W (hk : Chg [] w W) => rparents_any _ l W (hS.keep hk) (by omega) hw)
  have HRF := Lib.hid (fun (pv : Value) W (hk : Chg [] w W) (hp : SeenI W pv (parents l)) => rfits8_any l _ pv hok d 0 t _ W hl0 (hS.keep hk) hp (hT.keep hk))
  simp only [show ((0 : Nat) : Int) = 0 from rfl] at HRF
  have HC0 := Lib.hid hC0; have HW0 := Lib.hid hW0; have HB := Lib.hid hb
  obtain ⟨tn, htn⟩ : ∃ n, n = t.n := ⟨_, rfl⟩
  obtain ⟨ts, hts⟩ : ∃ s, s = t.s := ⟨_, rfl⟩
  obtain ⟨m, hm⟩ : ∃ m, m = t.k.length := ⟨_, rfl⟩
  obtain ⟨n, hnn⟩ : ∃ n, n = l.length := ⟨_, rfl⟩
  rw [← htn, ← hts, ← hm] at HRF HPR HW0 ⊢
  rw [← hnn] at HRF HRP ⊢
  clear hS hT hC0 hW0 hb htn hts hm hnn hn hc1
  go_enter Try.func26, Try.ntmps26
  go_upto_region 1 with fail
  rw [← HB.out, ← HW0.out]
  go_region_held3 (fun w' => w'.cell? ⟨b, 0, none⟩ = some (.int .i64 tn) ∧ w'.cell? ⟨b, 1, none⟩ = some (.string ts) ∧ w'.cell? ⟨b, 2, none⟩ = some (.slice ko m kcap)) (first | (exact HPR.out) | (exact HPR2.out) | (exact HPR3.out)) (first
    | (go_at_call 52; (with_reducible refine (HRP.out _ (by first | exact HC0.out | exact HC0.out.drew | exact HC0.out.drewN _)).mono ?_); rintro e wa ⟨pv, rfl, hpv, hka⟩; have HPV := Lib.hid hpv; have HCA := Lib.hid (show Chg [] w wa from by first | exact HC0.out.trans hka (by simp) | exact HC0.out.drew.trans hka (by simp) | exact (HC0.out.drewN _).trans hka (by simp)); have HPR2 := Lib.hid (show wa.cell? ⟨b, 0, none⟩ = some (.int .i64 tn) ∧ wa.cell? ⟨b, 1, none⟩ = some (.string ts) ∧ wa.cell? ⟨b, 2, none⟩ = some (.slice ko m kcap) from ⟨hka.cell HPR.out.1 (by simp), hka.cell HPR.out.2.1 (by simp), hka.cell HPR.out.2.2 (by simp)⟩); clear hpv hka)
    | (go_at_call 53; (with_reducible refine (HRF.out _ _ (by first | exact HCA.out | exact HCA.out.drew | exact HCA.out.drewN _) (by first | exact HPV.out | exact HPV.out.keep (Chg.refl [] _).drew | exact HPV.out.keep ((Chg.refl [] _).drewN _))).mono ?_); rintro e wb ⟨rfl, hkb⟩; have HCB := Lib.hid (show Chg [] w wb from by first | exact HCA.out.trans hkb (by simp) | exact HCA.out.drew.trans hkb (by simp) | exact (HCA.out.drewN _).trans hkb (by simp)); have HPR3 := Lib.hid (show wb.cell? ⟨b, 0, none⟩ = some (.int .i64 tn) ∧ wb.cell? ⟨b, 1, none⟩ = some (.string ts) ∧ wb.cell? ⟨b, 2, none⟩ = some (.slice ko m kcap) from ⟨hkb.cell HPR2.out.1 (by simp), hkb.cell HPR2.out.2.1 (by simp), hkb.cell HPR2.out.2.2 (by simp)⟩); clear hkb))
  go_wp2
  go_ret
  exact ⟨rfl, HCB.out⟩

end Go.Proofs.Ytfdmbpfpdijpdaa

namespace Go.Proofs.Ytfdmbpfpdijpdaa
open Go.RowKit
set_option linter.unusedVariables false

theorem orE_both {a b : Int} (h : orE a b = 0) : a = 0 ∧ b = 0 := by
  unfold orE at h
  split at h
  · rename_i hne; exact absurd h hne
  · rename_i hne; exact ⟨Classical.not_not.1 hne, h⟩

theorem fitL_app (l : List F) (f : Nat) (a b : List Tr) : fitL l f (a ++ b) = orE (fitL l f a) (fitL l f b) := by
  induction a with
  | nil => rw [List.nil_append, fitL]; rfl
  | cons t a ih =>
    rw [List.cons_append, fitL, fitL, ih]
    unfold orE
    split <;> rfl

theorem mkLs_fit (l : List F) (i : Nat) {f : Nat → Tr × Nat} (h : ∀ p, fitV l i (f p).1 = 0) : ∀ j p, fitL l i (mkLs f j p).1 = 0
  | 0, _ => by rw [mkLs, fitL]
  | j + 1, p => by
    rw [mkLs, fitL_app, mkLs_fit l i h j p, fitL, fitL, h]
    rfl

theorem fitG_snoc (l : List F) (i : Int) (y : List Tr) : ∀ (a : List Int) (x : List (List Tr)), a.length = x.length → fitG l a x = 0 → fitG l (a ++ [i]) (x ++ [y]) = listE l i.toNat y
  | [], [], _, _ => by
    rw [List.nil_append, List.nil_append, fitG, fitG]
    show orE (orE (timesE (l.getD i.toNat default).r y.length) (fitL l i.toNat y)) 0 = listE l i.toNat y
    unfold listE orE
    split <;> simp_all
  | [], _ :: _, h, _ => by simp at h
  | _ :: _, [], h, _ => by simp at h
  | j :: a, x :: xs, h, h0 => by
    rw [fitG] at h0
    rw [List.cons_append, List.cons_append, fitG]
    have h1 : orE (timesE (l.getD j.toNat default).r x.length) (fitL l j.toNat x) = 0 ∧ fitG l a xs = 0 := by
      have e : orE (orE (timesE (l.getD j.toNat default).r x.length) (fitL l j.toNat x)) (fitG l a xs) = 0 := h0
      exact orE_both e
    have ih := fitG_snoc l i y a xs (by simpa using h) h1.2
    show orE (orE (timesE (l.getD j.toNat default).r x.length) (fitL l j.toNat x)) (fitG l (a ++ [i]) (xs ++ [y])) = _
    rw [h1.1, ih]
    rfl

theorem cntF_fit {l : List F} (ns : List Int) {i : Nat} (p : Nat) (hr : (l.getD i default).r = 0 ∨ (l.getD i default).r = 1 ∨ (l.getD i default).r = 2) : timesE (l.getD i default).r (cntF l ns i p).1 = 0 := by
  rcases hr with h | h | h
  · have e : (cntF l ns i p).1 = 1 := by unfold cntF; rw [h, if_neg (by omega), if_neg (by omega)]
    rw [h, e]; rfl
  · have e : (cntF l ns i p).1 = ((nx ns p).1 % 2).toNat := by unfold cntF; rw [h, if_pos rfl]
    rw [h, e]
    unfold timesE
    rw [if_neg (by omega), if_pos rfl, if_pos (by omega)]
  · have e : (cntF l ns i p).1 = ((nx ns p).1 % 4).toNat := by unfold cntF; rw [h, if_neg (by omega), if_pos rfl]
    rw [h, e]
    unfold timesE
    rw [if_neg (by omega), if_neg (by omega), if_pos rfl, if_pos (by omega)]

theorem fold_fit (l : List F) (ns : List Int) (f : Nat → Nat → Tr × Nat) : ∀ (is pre : List Int) (s : List (List Tr) × Nat), pre.length = s.1.length → fitG l pre s.1 = 0 → (∀ i ∈ is, ((l.getD i.toNat default).r = 0 ∨ (l.getD i.toNat default).r = 1 ∨ (l.getD i.toNat default).r = 2) ∧ ∀ p, fitV l i.toNat (f i.toNat p).1 = 0) → fitG l (pre ++ is) (is.foldl (stepK l ns f) s).1 = 0
  | [], pre, s, _, h0, _ => by rw [List.append_nil]; exact h0
  | i :: is, pre, s, hl, h0, h => by
    rw [List.foldl_cons, show pre ++ i :: is = (pre ++ [i]) ++ is by simp]
    refine fold_fit l ns f is (pre ++ [i]) (stepK l ns f s i) (by simp [stepK, hl]) ?_ fun k hk => h k (by simp [hk])
    have h1 := h i (by simp)
    show fitG l (pre ++ [i]) (s.1 ++ [(mkLs (f i.toNat) (cntF l ns i.toNat s.2).1 (cntF l ns i.toNat s.2).2).1]) = 0
    rw [fitG_snoc l i _ pre s.1 hl h0]
    unfold listE
    rw [mkLs_len, cntF_fit ns s.2 h1.1, mkLs_fit l i.toNat h1.2]
    rfl

theorem mkT_fit (l : List F) (ns : List Int) (hok : FitOk l) (hkn : ∀ f, f < l.length → 0 ≤ (l.getD f default).k ∧ (l.getD f default).k ≤ 4) : ∀ d f p, f < l.length → l.length ≤ d + f → fitV l f (mkT l ns d f p).1 = 0
  | 0, f, p, h1, h2 => absurd h1 (by omega)
  | d + 1, f, p, h1, h2 => by
    have hk := hkn f h1
    rw [mkT]
    by_cases k1 : (l.getD f default).k = 1
    · rw [if_pos k1, fitV_leaf (by omega), k1]
      show leafE 1 (.mk ((nx ns p).1 % 2) ByteArray.empty []) = 0
      unfold leafE
      have ho : overB 1 ((nx ns p).1 % 2) = false := by unfold overB; rw [decide_eq_false_iff_not]; omega
      simp [ho]
    rw [if_neg k1]
    by_cases k2 : (l.getD f default).k = 2
    · rw [if_pos k2, fitV_leaf (by omega), k2]
      show leafE 2 (.mk ((nx ns p).1 % 300 - 100) ByteArray.empty []) = 0
      unfold leafE
      have ho : overB 2 ((nx ns p).1 % 300 - 100) = false := by unfold overB; rw [decide_eq_false_iff_not]; omega
      simp [ho]
    rw [if_neg k2]
    by_cases k3 : (l.getD f default).k = 3
    · rw [if_pos k3, fitV_leaf (by omega), k3]
      show leafE 3 (.mk (nx ns p).1 ByteArray.empty []) = 0
      unfold leafE
      have ho : overB 3 (nx ns p).1 = false := by unfold overB; rw [decide_eq_false_iff_not]; omega
      simp [ho]
    rw [if_neg k3]
    by_cases k4 : (l.getD f default).k = 4
    · rw [if_pos k4, fitV_leaf (by omega), k4]
      show leafE 4 (.mk 0 (abc.extract 0 ((nx ns p).1 % 9).toNat) []) = 0
      unfold leafE
      have ho : overB 4 0 = false := by decide
      have hz : ¬ 100 < (abc.extract 0 ((nx ns p).1 % 9).toNat).size := by
        have h3 : (abc.extract 0 ((nx ns p).1 % 9).toNat).size ≤ abc.size := by rw [ByteArray.size_extract]; omega
        have h4 : abc.size = 12 := by decide
        omega
      rw [if_neg (by simp), if_neg (by show ¬ overB 4 0 = true; rw [ho]; decide), if_neg (by show ¬ 100 < (abc.extract 0 ((nx ns p).1 % 9).toNat).size; exact hz)]
    rw [if_neg k4]
    have k0 : (l.getD f default).k = 0 := by omega
    rw [fitV_group k0]
    show (if (0 : Int) ≠ 0 ∨ ByteArray.empty ≠ ByteArray.empty ∨ (kidsTo l ns (mkT l ns d) f l.length (nx ns p).2).1.length ≠ (kidsU (parents l) l.length f).length then 13 else fitG l (kidsU (parents l) l.length f) (kidsTo l ns (mkT l ns d) f l.length (nx ns p).2).1) = 0
    have hlen : (kidsTo l ns (mkT l ns d) f l.length (nx ns p).2).1.length = (kidsU (parents l) l.length f).length := by
      unfold kidsTo
      rw [stepK_len]
      simp
    rw [if_neg (by
      rintro (h | h | h)
      · exact h rfl
      · exact h rfl
      · exact h hlen)]
    unfold kidsTo
    have h := fold_fit l ns (mkT l ns d) (kidsU (parents l) l.length f) [] ([], (nx ns p).2) rfl (by rw [fitG]) fun i hi => by
      obtain ⟨j, rfl, q1, q2⟩ := kidsU_mem.1 hi
      rw [Int.toNat_natCast]
      have hx : (parents l)[j]? = some (f : Int) := by rw [← q2, List.getD, List.getElem?_eq_getElem (by rw [parents_length]; exact q1)]; rfl
      have := parents_lt hx
      exact ⟨hok.r j q1, fun p => mkT_fit l ns hok hkn d j p q1 (by omega)⟩
    rw [List.nil_append] at h
    exact h

/-- A record of raw numbers is one of its schema. -/
theorem mk8_fits {l : List F} (ns : List Int) (h : chk l = 0) : fitV l 0 (mk8 l ns) = 0 ∧ fitsT l (mk8 l ns) = 0 := by
  have hl := chk_len h
  have hg := chk_good h
  have hkn : ∀ f, f < l.length → 0 ≤ (l.getD f default).k ∧ (l.getD f default).k ≤ 4 := by
    intro f hf
    have h1 := hg f hf
    unfold faultN at h1
    split at h1
    · cases h1
    · split at h1
      · cases h1
      · split at h1
        · cases h1
        · split at h1
          · cases h1
          · rename_i h2
            have hx : knownB (l.getD f default) = true := by cases hx : knownB (l.getD f default) <;> simp_all
            unfold knownB at hx
            simp only [Bool.and_eq_true, decide_eq_true_iff] at hx
            omega
  have h1 : fitV l 0 (mk8 l ns) = 0 := mkT_fit l ns (chk_fit h) hkn l.length 0 0 (by omega) (by omega)
  refine ⟨h1, ?_⟩
  unfold fitsT
  rw [h, h1]
  rfl

end Go.Proofs.Ytfdmbpfpdijpdaa
