/- The walk of the statement ProjectOne. -/
import Derived.Test.YtamcpebnfckdmaaQv
import Derived.Test.YtamcpebnfckdmaaA7
import Derived.Deep.RegionHeld3
namespace Go.Proofs.Ytamcpebnfckdmaa
open Go.RowKit
set_option linter.unusedVariables false

theorem leaves_pos (ns : List Int) : 0 < (leavesL (mk ns)).length := leaves_ne (mk_ok ns).leaf

set_option maxRecDepth 100000 in
set_option maxHeartbeats 8000000 in
theorem walk_ProjectOne (a0 : Option Addr) (len0 cap0 : Nat) (z0 : List Int) (a1 : Int) (w : World) (w0 : IsRow .i64 w a0 len0 cap0 z0) (w1 : (Lit.int .i64 a1).wf = true) :
    Calls Try.prog 6 #[.slice a0 len0 cap0, .int .i64 a1] w fun e w' => e = .returned (.bool true) ∧ Below w.heap.size w w' := by
  obtain ⟨ns, hS, hlen, hwf⟩ := w0.seenI
  have HS := Lib.hid hS; have HWF := Lib.hid hwf; have HA1 := Lib.hid w1
  clear w0 w1 hS hwf hlen
  have hmk := mk_ok ns
  have HCK := Lib.hid (mk_chk ns)
  have htw := mk_two ns
  have hlp := leaves_pos ns
  have hr0 := (mk_root ns).2.2
  obtain ⟨l, hl⟩ : ∃ l, l = mk ns := ⟨_, rfl⟩
  rw [← hl] at hmk HCK htw hlp hr0
  have HL := Lib.hid hl
  have hln := hmk.le
  have HGD := Lib.hid (chk_good HCK.out)
  have HFC := Lib.hid (show ∀ f ∈ l, f.c ≤ 9223372036854775807 from fun f hf => by have := hmk.c f hf; omega)
  have HFN := Lib.hid (show ∀ f ∈ l, f.n.size ≤ 1000 from fun f hf => by have := hmk.n f hf; omega)
  obtain ⟨n, hn⟩ : ∃ n, n = l.length := ⟨_, rfl⟩
  have HN := Lib.hid hn
  rw [← hn] at hln htw
  obtain ⟨q, hq⟩ : ∃ q, q = (leavesL l).length := ⟨_, rfl⟩
  have hqn : q ≤ n := by rw [hq, hn]; exact leavesTo_le l l.length
  rw [← hq] at hlp
  have HQ := Lib.hid hq
  have HW7 := Lib.hid (fun wx => w7_nat a1 q wx (by omega) (by omega) HA1.out)
  obtain ⟨wh, hwh⟩ : ∃ f, f = (a1 % (q : Int)).toNat := ⟨_, rfl⟩
  have hwq : wh < q := by rw [hwh]; exact within_lt a1 q (by omega)
  rw [← hwh] at HW7
  obtain ⟨lf, hlf⟩ : ∃ x, (leavesL l)[wh]? = some x := ⟨_, List.getElem?_eq_getElem (by rw [← hq]; exact hwq)⟩
  obtain ⟨f, hfn, hff, hfk⟩ := leavesTo_mem (List.mem_of_getElem? hlf)
  rw [← hn] at hfn
  have hf0 : f ≠ 0 := fun e => by rw [e] at hfk; exact hfk hr0
  have HFK := Lib.hid hfk; have HLF := Lib.hid hlf; have HFF := Lib.hid hff
  clear hmk hl hn hq hwh hlf hfk hr0 hff
  go_enter Try.func6, Try.ntmps6
  go_wp2_with fail
  (with_reducible refine (known7_any _).mono ?_)
  rintro e w1 ⟨rfl, hk⟩
  have HK1 := Lib.hid hk
  clear hk
  go_wp2_with fail
  (with_reducible refine (make_any _ ns _ (HS.out.keep HK1.out) HWF.out).mono ?_)
  rintro e w2 ⟨sv, rfl, hown, hk⟩
  rw [← HL.out, ← HN.out] at hown
  have hSv := SeenF.own hown HN.out.symm
  obtain ⟨sa, sc, rfl⟩ := own_shape hown
  have HSF := Lib.hid hSv
  have HK2 := Lib.hid (HK1.out.trans hk (by simp))
  clear hown hSv hk
  go_wp2_with fail
  (with_reducible refine (rleaves_any _ l _ HSF.out (by rw [← HN.out]; omega) HFC.out).mono ?_)
  rintro e w3 ⟨lv, rfl, hlv, hk3⟩
  obtain ⟨lo, lcap, rfl, hl1, hl2⟩ := hlv.shape
  rw [← HQ.out] at hl1 hlv ⊢
  obtain ⟨gl, loff, rfl, hlc⟩ := hlv.at (by omega)
  have hfc := hlc wh lf 0 _ HLF.out rfl
  rw [HFF.out, Nat.add_zero] at hfc
  have HK3 := Lib.hid (HK2.out.trans hk3 (by simp))
  have HSF := Lib.hid (HSF.out.keep hk3)
  clear hk3 hlv hlc
  have HPZ := Lib.hid (show (pathB l (f : Int)).size ≤ 9223372036854775806 from by
    have h := paths_small HFN.out (by rw [← HN.out]; omega) (by rw [← HN.out]; omega) [(f : Int) - 1] (pathB l (f : Int)) (by
      unfold pathsL
      simp
      congr 1
      rw [Int.emod_eq_of_lt (by omega) (by rw [← HN.out]; omega)]
      omega)
    exact h)
  have HFP := Lib.hid (find_path HGD.out (k := f) (by rw [← HN.out]; exact hfn) (by omega))
  go_wp2_with (first
    | (go_at_call 28; (with_reducible refine (HW7.out _).mono ?_); rintro e w4 ⟨rfl, rfl⟩)
    | fail)
  (with_reducible refine (rpath_any rparents_any _ l (f : Int) _ HSF.out (by rw [← HN.out]; omega) HFC.out HFN.out).mono ?_)
  rintro e w4 ⟨rfl, hk4⟩
  obtain ⟨P, hP⟩ : ∃ P, P = pathB l (f : Int) := ⟨_, rfl⟩
  rw [← hP] at HPZ HFP ⊢
  clear hP
  have HK4 := Lib.hid (HK3.out.trans hk4 (by simp))
  have HSF := Lib.hid (HSF.out.keep hk4)
  clear hk4 hfc
  have HPS := Lib.hid (show SeenS (w4.alloc (.cells #[.string P] 9)) (.slice (some ⟨w4.heap.size, 0, none⟩) 1 1) [P] from ⟨_, 1, rfl, Nat.le_refl _, by decide, fun _ => ⟨w4.heap.size, 0, rfl, fun j x i u hx hu => by
    have hj : j = 0 := by
      cases j with
      | zero => rfl
      | succ j => simp at hx
    subst hj
    simp at hx
    subst hx
    have hi : i = 0 := by
      cases i with
      | zero => rfl
      | succ i => simp [Go.Proofs.Ytamcpebnfckdmaa.sc] at hu
    subst hi
    simp [Go.Proofs.Ytamcpebnfckdmaa.sc] at hu
    subst hu
    exact new_cell 0 _ rfl⟩⟩)
  have HR1 := Lib.hid (resolve_any _ _ l [P] _ (HSF.out.keep ((Chg.refl [] w4).alloc _)) HPS.out HFC.out HFN.out (fun p hp => by simp at hp; subst hp; exact HPZ.out))
  go_wp2_with fail
  (with_reducible refine HR1.out.mono ?_)
  rintro e w5 ⟨hout, hk5⟩
  have HSF5 := Lib.hid ((HSF.out.keep ((Chg.refl [] w4).alloc _)).keep hk5)
  have HK5 := Lib.hid ((HK4.out.alloc _).trans hk5 (by simp))
  clear hk5
  rcases hout with ⟨h1, -⟩ | ⟨-, h1, -⟩ | ⟨-, -, g1, κ, p1, rfl, hb1, -, hpv, hkp1⟩
  · exact absurd HCK.out h1
  · obtain ⟨q, hq, hf1⟩ := h1
    simp at hq
    subst hq
    rw [HFP.out] at hf1
    omega
  have HKU := Lib.hid (kept_one hkp1 HFP.out (by rw [← HN.out]; exact hfn) HFK.out)
  have HKL := Lib.hid (kept_count HKU.out)
  have HPL := Lib.hid (part_leaves HKU.out (by rw [← HN.out]; exact hfn) HFK.out)
  have hplen : (partTo l κ l.length).length = cU (parents l) l.length (f : Int) := by
    rw [← HKL.out]
    unfold partTo
    rw [List.length_map]
  have hlast := part_last (l := l) (κ := κ) ((HKU.out f (by rw [← HN.out]; exact hfn)).2 (upI_nat.2 (.refl f))) l.length (by rw [← HN.out]; exact hfn) (fun j h1 h2 => by
    cases hx : κ j
    · rfl
    · have := (upI_nat.1 ((HKU.out j h2).1 hx)).le
      omega)
  rw [← HN.out] at hb1 hpv hplen hlast ⊢
  have HB1 := Lib.hid hb1; have HPV := Lib.hid hpv
  obtain ⟨po, pcap, rfl, hp1, hp2⟩ := hpv.shape
  obtain ⟨M, hM⟩ : ∃ M, M = (partTo l κ n).length := ⟨_, rfl⟩
  rw [← hM] at hp1 hplen HPV hpv ⊢
  have HMM := Lib.hid hM
  have HMC := Lib.hid (show cU (parents l) n (f : Int) = M by rw [hplen, HN.out])
  have hM1 : 1 ≤ M := by rw [hM, hlast]; simp
  have hMn : M ≤ n := by rw [hM]; exact partTo_len _ _ _
  obtain ⟨gp, poff, rfl, hpc⟩ := SeenF.get hpv (by omega) hM.symm
  obtain ⟨-, -, pk, -⟩ := hpc (M - 1) (by omega)
  have hpk : ((partTo l κ n).getD (M - 1) default).k = (l.getD f default).k := by
    rw [hM, hlast, List.length_append, List.length_singleton, Nat.add_sub_cancel, List.getD, List.getElem?_append_right (Nat.le_refl _), Nat.sub_self]
    rfl
  rw [hpk] at pk
  obtain ⟨gs, soff, rfl, hsc⟩ := SeenF.get HSF5.out (by omega) HN.out.symm
  obtain ⟨-, -, sk, -⟩ := hsc f hfn
  obtain ⟨kk, hkk⟩ : ∃ k, k = (l.getD f default).k := ⟨_, rfl⟩
  rw [← hkk] at pk sk
  have HPK := Lib.hid (And.intro pk sk)
  clear hb1 hkp1 hpv hplen hlast hM hpc hpk hsc hkk pk sk HKL HPS HR1
  go_wp2_with fail
  refine (rparents_any _ l _ HSF5.out (by rw [← HN.out]; omega) HFC.out).mono ?_
  rintro e w6 ⟨uv, rfl, hu, hk6⟩
  have hsh := hu.shape
  rw [parents_length, ← HN.out] at hsh
  obtain ⟨uo, ucap, rfl, hu1, hu2⟩ := hsh
  obtain ⟨gu, uoff, rfl, hcu⟩ := SeenI.get hu (by omega) (by rw [parents_length, HN.out])
  have HCU := Lib.hid (show ∀ j, j < n → ∃ x, (parents l)[j]? = some x ∧ -1 ≤ x ∧ x < j ∧ w6.cell? ⟨gu, uoff + j, none⟩ = some (.int .i64 x) from fun j hj => by
    have hx : (parents l)[j]? = some ((parents l).getD j 0) := by rw [List.getD, List.getElem?_eq_getElem (by rw [parents_length, ← HN.out]; exact hj)]; rfl
    have := parents_lt hx
    exact ⟨_, hx, by omega, by omega, hcu j hj⟩)
  have HK6 := Lib.hid (HK5.out.trans hk6 (by simp))
  have HB6 := Lib.hid (HB1.out.chg hk6 (by simp))
  have HPK6 := Lib.hid (And.intro (hk6.cell HPK.out.1 (by simp)) (hk6.cell HPK.out.2 (by simp)))
  have HPV6 := Lib.hid (HPV.out.keep hk6)
  clear hu hk6 hcu HB1 HPK HPV
  go_wp2
  go_loopw [12, 13] (fun s12 s13 wx => ∃ (c : Nat) (j : Int), s12 = .int .i64 (c : Int) ∧ s13 = .int .i64 j ∧ -1 ≤ j ∧ j < n ∧ c + cU (parents l) n j = M ∧ (∀ m : Nat, j = (m : Int) → UpI (parents l) (f : Int) m) ∧ Chg [] w6 wx) (fun _ s13 _ => (intOf s13 + 1).toNat)
  case atStart =>
    refine ⟨0, (f : Int), rfl, rfl, by omega, by omega, by rw [Nat.zero_add]; exact HMC.out, fun m hm => ?_, Chg.refl _ _⟩
    have e : f = m := by omega
    rw [← e]
    exact upI_nat.2 (.refl f)
  case round =>
    obtain ⟨c, j, rfl, rfl, hj0, hjn, hc, hup, hC⟩ := hrel
    have HCC := Lib.hid hc; have HUP := Lib.hid hup; have HC := Lib.hid hC
    have hcM : c ≤ M := by omega
    clear hc hup hC
    by_cases hjp : 0 ≤ j
    · obtain ⟨m, rfl⟩ : ∃ m : Nat, j = m := ⟨j.toNat, by omega⟩
      obtain ⟨x, hx, hx0, hx1, hxc⟩ := HCU.out m (by omega)
      have hxc' := HC.out.cell hxc (by simp)
      have hml : m < n := by omega
      have HST := Lib.hid (cU_step (n := n) hx hml)
      have hkm : κ m = true := (HKU.out m (by rw [← HN.out]; exact hml)).2 (HUP.out m rfl)
      have hkc := (HB6.out.chg HC.out (by simp)).cell hml
      rw [hkm] at hkc
      have HUS := Lib.hid (show ∀ m2 : Nat, x = (m2 : Int) → UpI (parents l) (f : Int) m2 from fun m2 e => by
        have h1 := upI_nat.1 (HUP.out m rfl)
        rw [e] at hx
        exact upI_nat.2 (h1.snoc hx))
      have hzw : IntKind.i64.wrap ((c : Int) + 1) = (c : Int) + 1 := IntWalk.i64_in _ (by omega)
      clear hx hxc hkm
      go_wp2
      go_roundw
      case rel =>
        refine ⟨c + 1, x, by go_num, rfl, hx0, by omega, ?_, HUS.out, HC.out⟩
        have h1 := HCC.out
        have h2 := HST.out
        omega
      case measure => simp [intOf]; omega
    · have hj1 : j = -1 := by omega
      subst hj1
      have hcMe : c = M := by have h := HCC.out; rw [cU_none] at h; omega
      subst hcMe
      clear hcM hjp hj0 hjn
      go_wp2
      go_loopw [14, 15] (fun s14 s15 wx => ∃ (i : Nat) (a : Nat), s15 = .int .i64 (i : Int) ∧ s14 = .int .i64 (a : Int) ∧ i ≤ n ∧ a = ((List.range i).filter κ).length ∧ Chg [] w6 wx) (fun _ s15 _ => n - (intOf s15).toNat)
      case atStart => exact ⟨0, 0, rfl, rfl, Nat.zero_le _, rfl, HC.out⟩
      case round =>
        obtain ⟨i, a, rfl, rfl, hin, ha, hC⟩ := hrel
        have HAA := Lib.hid ha; have HC2 := Lib.hid hC
        have hai : a ≤ i := by rw [ha]; exact Nat.le_trans (List.length_filter_le _ _) (by simp)
        clear ha hC
        by_cases hlt : i < n
        · have hkc := (HB6.out.chg HC2.out (by simp)).cell hlt
          obtain ⟨b, hb⟩ : ∃ b, b = κ i := ⟨_, rfl⟩
          rw [← hb] at hkc
          have HBB := Lib.hid hb
          have hzw : IntKind.i64.wrap ((a : Int) + 1) = (a : Int) + 1 := IntWalk.i64_in _ (by omega)
          clear hb
          cases b
          · go_wp2
            go_roundw
            case rel => exact ⟨i + 1, a, by go_num, rfl, by omega, by rw [List.range_succ, List.filter_append, List.length_append, ← HAA.out]; simp [← HBB.out], HC2.out⟩
            case measure => simp [intOf]; omega
          · go_wp2
            go_roundw
            case rel => exact ⟨i + 1, a + 1, by go_num, by go_num, by omega, by rw [List.range_succ, List.filter_append, List.length_append, ← HAA.out]; simp [← HBB.out], HC2.out⟩
            case measure => simp [intOf]; omega
        · have hac : a = c := by
            rw [HAA.out, show i = l.length by rw [← HN.out]; omega, kept_count HKU.out, ← HN.out]
            exact HMC.out
          subst hac
          have e1 : ((a : Int) == (a : Int)) = true := by simp
          have e2 : (kk == kk) = true := by simp
          have hzm : IntKind.i64.wrap ((a : Int) - 1) = ((a - 1 : Nat) : Int) := by rw [IntWalk.i64_in _ (by omega)]; omega
          have hzl : (((a - 1 : Nat) : Int)) < (a : Int) := by omega
          have hfl : (f : Int) < (n : Int) := by omega
          have HLV := Lib.hid (show ∀ wx, Chg [] wr wx → Calls Try.prog 29 #[.slice (some ⟨gp, poff, none⟩) a pcap] wx fun e w' => (∃ vo vc, e = .returned (.slice vo 1 vc)) ∧ Chg [] wx w' from fun wx hk =>
            (rleaves_any _ (partTo l κ n) wx (HPV6.out.keep (HC2.out.trans hk (by simp))) (by have := partTo_len l κ n; omega) (fun g hg => by
              unfold partTo at hg
              obtain ⟨j, -, rfl⟩ := List.mem_map.1 hg
              have h1 := cntK_le κ (kidsOf l (j : Int))
              have h2 : (kidsOf l (j : Int)).length ≤ l.length := kidsU_len _ _ _
              show ((cntK κ (kidsOf l (j : Int)) : Nat) : Int) ≤ _
              rw [← HN.out] at h2
              omega)).mono (by
              rintro e w' ⟨v, rfl, hv, hk2⟩
              obtain ⟨vo, vc, rfl, -, -⟩ := hv.shape
              have h1 := HPL.out
              rw [← HN.out] at h1
              rw [h1]
              exact ⟨⟨vo, vc, rfl⟩, hk2⟩))
          have HCE := Lib.hid (show wr.cell? ⟨gp, poff + (a - 1) * 4 + 2, none⟩ = some (.int .i64 kk) ∧ wr.cell? ⟨gs, soff + f * 4 + 2, none⟩ = some (.int .i64 kk) from ⟨HC2.out.cell HPK6.out.1 (by simp), HC2.out.cell HPK6.out.2 (by simp)⟩)
          go_upto_region 23 with fail
          go_region_held3 (fun w' => w'.cell? ⟨gp, poff + (a - 1) * 4 + 2, none⟩ = some (.int .i64 kk) ∧ w'.cell? ⟨gs, soff + f * 4 + 2, none⟩ = some (.int .i64 kk)) (first | (exact HCE.out) | (exact HCE2.out)) (first
            | (go_at_call 29; (with_reducible refine (HLV.out _ ?_).mono ?_); (focus (first | exact Chg.refl [] wr | exact (Chg.refl [] wr).drew)); rintro e w7 ⟨⟨vo, vc, rfl⟩, hk7⟩; have HCE2 := Lib.hid (show w7.cell? ⟨gp, poff + (a - 1) * 4 + 2, none⟩ = some (.int .i64 kk) ∧ w7.cell? ⟨gs, soff + f * 4 + 2, none⟩ = some (.int .i64 kk) from ⟨hk7.cell HCE.out.1 (by simp), hk7.cell HCE.out.2 (by simp)⟩); have HK7 := Lib.hid (show Chg [] wr w7 from (Chg.refl [] wr).drew.trans hk7 (by simp)); clear hk7))
          go_wp2
          go_ret
          exact ⟨rfl, ((HK6.out.trans HC2.out (by simp)).trans HK7.out (by simp)).below (Nat.le_refl _) (by simp)⟩

end Go.Proofs.Ytamcpebnfckdmaa
