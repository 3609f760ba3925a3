/- The walk of the statement DictWords. -/
import Derived.Test.YtegidbbigjhapaaEe
namespace Go.Proofs.Ytegidbbigjhapaa
open Go.RowKit
set_option linter.unusedVariables false
set_option linter.unusedSimpArgs false

/-- How many words there are when i values were looked at. -/
def seenN (l : List V) (i : Nat) : Nat := (wdsL (l.take i)).length

theorem seenN_step {l : List V} {i : Nat} {v : V} (h : l[i]? = some v) : plcV (wdsL l) v ≤ seenN l i ∧ seenN l (i + 1) = (if plcV (wdsL l) v = seenN l i then seenN l i + 1 else seenN l i) := by
  have e : plcV (wdsL l) v = plcV (addW (wdsL (l.take i)) v) v := by
    have := wdsL_take_pre l (i + 1)
    rw [wdsL_take h] at this
    exact plcV_pre this (mem_addW.2 (Or.inr rfl))
  unfold seenN
  rw [wdsL_take h, e]
  by_cases hv : v ∈ wdsL (l.take i)
  · rw [addW_in hv]
    have := plcV_lt hv
    rw [if_neg (by omega)]
    omega
  · rw [addW_new hv, plcV_new hv, if_pos rfl]
    simp

theorem seenN_le (l : List V) (i : Nat) : seenN l i ≤ (wdsL l).length := (wdsL_take_pre l i).length_le
theorem seenN_all (l : List V) : seenN l l.length = (wdsL l).length := by unfold seenN; rw [List.take_length]

theorem words_less (l : List V) : bldL l (((wdsL l).length : Int) - 1) = ([], [], false) := by
  unfold bldL
  rw [if_neg (by omega)]
theorem words_tight (l : List V) (h : l.length ≤ 60) : bldL l ((wdsL l).length : Int) = (wdsL l, atsL l, true) := by
  have := wdsL_len l
  exact bldL_in (by omega) (by omega)
theorem words_256 (l : List V) (h : l.length ≤ 60) : bldL l 256 = (wdsL l, atsL l, true) := by
  have := wdsL_len l
  exact bldL_in (by omega) (by omega)

set_option maxRecDepth 100000 in
set_option maxHeartbeats 4000000 in
theorem walk_DictWords (a0 : Int) (a1 : Option Addr) (len1 cap1 : Nat) (l1 : List V) (w : World) (w0 : (Lit.int .i64 a0).wf = true) (w1 : SeenV w (.slice a1 len1 cap1) l1) (v1 : ∀ v ∈ l1, (Lit.int .i64 v.n).wf = true) :
    Calls Try.prog 5 #[.int .i64 a0, .slice a1 len1 cap1] w fun e w' => e = .returned (.bool true) ∧ Below w.heap.size w w' := by
  have HS := Lib.hid w1; have HV := Lib.hid v1
  have HQ := Lib.hid (fun wx => within13 a0 4 4 wx rfl (by decide) (by decide) w0)
  obtain ⟨K, hK⟩ : ∃ K, K = (a0 % ((4 : Nat) : Int)).toNat := ⟨_, rfl⟩
  have hK4 : K < 4 := by rw [hK]; exact within_lt a0 4 (by decide)
  rw [← hK] at HQ
  clear w1 v1 w0 hK
  go_enter Try.func5, Try.ntmps5
  go_wp2_with fail
  refine (known13_any _).mono ?_
  rintro e wA ⟨rfl, hk⟩
  have HKA := Lib.hid hk
  clear hk
  go_wp2_with fail
  refine (HQ.out _).mono ?_
  rintro e wB ⟨rfl, rfl⟩
  go_wp2_with fail
  obtain ⟨k, hk⟩ : ∃ k, k = K + 1 := ⟨_, rfl⟩
  have hk4 : 1 ≤ k ∧ k ≤ 4 := by omega
  rw [show (1 : Int) + (K : Int) = (k : Int) by omega]
  refine (all11_any k hk4 _ l1 wA (HS.out.keep HKA.out) HV.out).mono ?_
  rintro e wB ⟨x, rfl, hc, ho⟩
  obtain ⟨lo, lc, rfl⟩ := own_shape ho
  have hL60 := allV_len k l1
  obtain ⟨L, hL⟩ : ∃ L, L = allV k l1 := ⟨_, rfl⟩
  rw [← hL] at ho hL60 ⊢
  obtain ⟨n, hn⟩ : ∃ n, n = L.length := ⟨_, rfl⟩
  rw [← hn] at ho hL60 ⊢
  have HN := Lib.hid hn
  have HKB := Lib.hid (HKA.out.trans hc (by simp))
  have HL := Lib.hid (show SeenV wB (.slice lo n lc) L from SeenK.own V.cs_len ho hn.symm)
  obtain ⟨W, hW⟩ : ∃ W, W = wdsL L := ⟨_, rfl⟩
  obtain ⟨A, hA⟩ : ∃ A, A = atsL L := ⟨_, rfl⟩
  obtain ⟨m, hm⟩ : ∃ m, m = W.length := ⟨_, rfl⟩
  have hmn : m ≤ n := by rw [hm, hW, hn]; exact wdsL_len L
  have hAn : A.length = n := by rw [hA, atsL_len, hn]
  have HM := Lib.hid hm; have HW := Lib.hid hW; have HA := Lib.hid hA; have HAN := Lib.hid hAn
  have HB1 := Lib.hid (fun (wx : World) (hs : SeenV wx (.slice lo n lc) L) => bld13 (k : Int) _ L W A true 256 wx hs (by omega) rfl (by rw [hW, hA]; exact words_256 L (by omega)))
  have HB2 := Lib.hid (fun (wx : World) (hs : SeenV wx (.slice lo n lc) L) => bld13 (k : Int) _ L W A true (m : Int) wx hs (by omega) (wf64_of _ (by omega)) (by rw [hm, hW, hA]; exact words_tight L (by omega)))
  have HB3 := Lib.hid (fun (wx : World) (hs : SeenV wx (.slice lo n lc) L) => bld13 (k : Int) _ L [] [] false ((m : Int) - 1) wx hs (by omega) (wf64_of _ (by omega)) (by rw [hm, hW]; exact words_less L))
  simp only [← hm, hAn] at HB1 HB2
  clear hc ho hL hn hW hA hm hk
  go_wp2_with fail
  refine (HB1.out wB HL.out).mono ?_
  rintro e wC ⟨wo, wc, tp, tc, rfl, hc, hs, ha⟩
  have HKC := Lib.hid (HKB.out.trans hc (by simp))
  have HC := Lib.hid hc; have HSW := Lib.hid hs; have HTA := Lib.hid ha
  have HLC := Lib.hid (show SeenV wC (.slice lo n lc) L from HL.out.keep hc)
  have hnn : ((n : Int) != (n : Int)) = false := by simp
  clear hc hs ha
  go_wp2
  go_loopw [10, 11] (fun s i w' => ∃ j : Nat, j ≤ n ∧ i = .int .i64 (j : Int) ∧ s = .int .i64 ((seenN L j : Nat) : Int) ∧ ∃ q, w' = wC.drewN q) (fun _ i _ => n - (intOf i).toNat)
  case atStart => exact ⟨0, Nat.zero_le _, rfl, by simp [seenN, wdsL], 0, rfl⟩
  case round =>
    obtain ⟨j, hj, rfl, rfl, q, rfl⟩ := hrel
    by_cases hlt : j < n
    · have d1 : decide ((j : Int) < (n : Int)) = true := by simp; omega
      obtain ⟨v, hv⟩ : ∃ v, L[j]? = some v := ⟨_, List.getElem?_eq_getElem (by rw [← HN.out]; exact hlt)⟩
      obtain ⟨z, hz1, hz2, hz3⟩ := atsL_get hv
      rw [← HA.out] at hz1
      rw [← HW.out] at hz2 hz3
      obtain ⟨hs1, hs2⟩ := seenN_step hv
      rw [← HW.out, ← hz3] at hs1 hs2
      have hzm : z < m := by
        rw [HM.out]
        exact (List.getElem?_eq_some_iff.1 hz2).1
      obtain ⟨ga, rfl⟩ := own_some HTA.out (by omega)
      obtain ⟨gl, ol, rfl, hl⟩ := HLC.out.get (by omega)
      obtain ⟨gw, ow, rfl, hw⟩ := HSW.out.get (by omega)
      obtain ⟨l0, l1⟩ := hl j v hv
      obtain ⟨k0, k1⟩ := hw z v hz2
      have c0 := own_cell HTA.out HAN.out j hlt
      rw [show A.getD j 0 = z by rw [List.getD_eq_getElem?_getD, hz1]; rfl] at c0
      have e0 : decide ((z : Int) < 0) = false := by simp
      have e1 : decide ((m : Int) ≤ (z : Int)) = false := by simp; omega
      have hee : (v.s.toList == v.s.toList) = true := by simp
      obtain ⟨s, hs⟩ : ∃ s, s = seenN L j := ⟨_, rfl⟩
      rw [← hs] at hs1 hs2 ⊢
      have hsm : s ≤ m := by rw [hs, HM.out, HW.out]; exact seenN_le L j
      have e2 : decide ((s : Int) < (z : Int)) = false := by simp; omega
      have HS2 := Lib.hid hs2
      clear hl hw hz1 hz2 hz3 hv hs hs2
      by_cases hzs : z = s
      · have e3 : ((z : Int) == (s : Int)) = true := by simp [hzs]
        have hs2 : seenN L (j + 1) = s + 1 := by rw [HS2.out, if_pos hzs]
        have HS3 := Lib.hid hs2
        clear hzs hs2
        go_wp2
        go_quiet (fail)
        go_wp2
        go_roundw
        case rel => exact ⟨j + 1, hlt, by go_num, by rw [HS3.out]; go_num, _, rfl⟩
        case measure => simp [intOf]; omega
      · have e3 : ((z : Int) == (s : Int)) = false := by simp; omega
        have hs2 : seenN L (j + 1) = s := by rw [HS2.out, if_neg hzs]
        have HS3 := Lib.hid hs2
        clear hzs hs2
        go_wp2
        go_quiet (fail)
        go_wp2
        go_roundw
        case rel => exact ⟨j + 1, hlt, by go_num, by rw [HS3.out], _, rfl⟩
        case measure => simp [intOf]; omega
    · have d1 : decide ((j : Int) < (n : Int)) = false := by simp; omega
      have HSN := Lib.hid (show seenN L j = m by rw [show j = L.length by rw [← HN.out]; omega, seenN_all, HM.out, HW.out])
      rw [HSN.out]
      go_wp2
      go_loopw [12] (fun i w' => ∃ j : Nat, j ≤ m ∧ i = .int .i64 (j : Int) ∧ ∃ q, w' = wC.drewN q) (fun i _ => m - (intOf i).toNat)
      case atStart => exact ⟨0, Nat.zero_le _, rfl, q, rfl⟩
      case round =>
        obtain ⟨i, hi, rfl, q1, rfl⟩ := hrel
        by_cases hlti : i < m
        · have d2 : decide ((i : Int) < (m : Int)) = true := by simp; omega
          obtain ⟨x, hx⟩ : ∃ x, W[i]? = some x := ⟨_, List.getElem?_eq_getElem (by rw [← HM.out]; exact hlti)⟩
          obtain ⟨gw, ow, rfl, hw⟩ := HSW.out.get (by omega)
          obtain ⟨k0, k1⟩ := hw i x hx
          have HWC := Lib.hid hw; have HX := Lib.hid hx
          clear hw hx
          go_wp2
          go_loopw [13] (fun p w' => ∃ j : Nat, j ≤ i ∧ p = .int .i64 (j : Int) ∧ ∃ q, w' = wC.drewN q) (fun p _ => i - (intOf p).toNat)
          case atStart => exact ⟨0, Nat.zero_le _, rfl, q1, rfl⟩
          case round =>
            obtain ⟨p, hp, rfl, q2, rfl⟩ := hrel
            by_cases hpi : p < i
            · have d3 : decide ((p : Int) < (i : Int)) = true := by simp; omega
              obtain ⟨y, hy⟩ : ∃ y, W[p]? = some y := ⟨_, List.getElem?_eq_getElem (by rw [← HM.out]; omega)⟩
              obtain ⟨k2, k3⟩ := HWC.out p y hy
              have hne : ¬ x = y := fun e => by
                have hnd := wdsL_nodup L
                rw [← HW.out] at hnd
                have h1 := (List.getElem?_eq_some_iff.1 HX.out)
                have h2 := (List.getElem?_eq_some_iff.1 hy)
                obtain ⟨b1, e1⟩ := h1
                obtain ⟨b2, e2⟩ := h2
                exact (List.pairwise_iff_getElem.1 hnd p i b2 b1 hpi) (by rw [e1, e2, e])
              clear hy
              obtain ⟨xn, xs⟩ := x
              obtain ⟨yn, ys⟩ := y
              by_cases hnn2 : xn = yn
              · have hss : (xs.toList == ys.toList) = false := by
                  have : ¬ xs.toList = ys.toList := fun e => hne (by rw [hnn2, toList_inj e])
                  simpa using this
                have hni : (xn == yn) = true := by simp [hnn2]
                clear hne hnn2
                go_wp2
                go_quiet (fail)
                go_wp2
                go_roundw
                case rel => exact ⟨p + 1, hpi, by go_num, _, rfl⟩
                case measure => simp [intOf]; omega
              · have hni : (xn == yn) = false := by simpa using hnn2
                clear hne hnn2
                go_wp2
                go_quiet (fail)
                go_wp2
                go_roundw
                case rel => exact ⟨p + 1, hpi, by go_num, _, rfl⟩
                case measure => simp [intOf]; omega
            · have d3 : decide ((p : Int) < (i : Int)) = false := by simp; omega
              go_wp2
              go_roundw
              case rel => exact ⟨i + 1, hlti, by go_num, _, rfl⟩
              case measure => simp [intOf]; omega
        · have d2 : decide ((i : Int) < (m : Int)) = false := by simp; omega
          have hmm : ((m : Int) == (m : Int)) = true := by simp
          have hm64 : IntKind.i64.wrap ((m : Int) - 1) = (m : Int) - 1 := IntWalk.i64_in _ (by omega)
          have HKQ := Lib.hid (HKC.out.drewN q1)
          have HLQ := Lib.hid (show SeenV (wC.drewN q1) (.slice lo n lc) L from HLC.out.keep ((Chg.refl [] wC).drewN q1))
          go_wp2_with (first
            | (go_at_call 13; (with_reducible refine (HB2.out _ HLQ.out).mono ?_); rintro e wD ⟨wo1, wc1, tp1, tc1, rfl, hc, -, -⟩; have HLD := Lib.hid (show SeenV wD (.slice lo n lc) L from HLQ.out.keep hc); have HKD := Lib.hid (HKQ.out.trans hc (by simp)); clear hc)
            | (go_at_call 13; (with_reducible refine (HB3.out _ HLD.out).mono ?_); rintro e wE ⟨wo2, wc2, tp2, tc2, rfl, hc, -, -⟩; have HKE := Lib.hid (HKD.out.trans hc (by simp)); clear hc)
            | fail)
          go_ret
          exact ⟨rfl, HKE.out.below (Nat.le_refl _) (by simp)⟩

end Go.Proofs.Ytegidbbigjhapaa
