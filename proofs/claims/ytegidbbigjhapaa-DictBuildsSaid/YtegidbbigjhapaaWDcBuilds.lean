/- The walk of the statement DictBuilds. (gen_db.py writes it.) -/
import Derived.Test.YtegidbbigjhapaaEj
import Derived.Deep.RegionLaw
import Derived.Deep.RegionHeld3
namespace Go.Proofs.Ytegidbbigjhapaa
open Go.RowKit
set_option linter.unusedVariables false
set_option linter.unusedSimpArgs false

/-- What was built, written and read, is the values. -/
theorem back13 (R : List V) (h : R.length ≤ 4000) (h256 : (wdsL R).length ≤ 256) : ddecW (encZ (widD (wdsL R).length) (atsL R)) (R.length : Int) (wdsL R) = (R, 0) := by
  have hd := decZ_back (atsL R) (widD (wdsL R).length) (by have := widD_le h256; omega) (by rw [atsL_len]; exact h) (fun x hx => widD_lt h256 (atsL_lt R x hx))
  rw [atsL_len] at hd
  unfold ddecW
  rw [if_neg (by omega), hd, if_neg (by simp), if_pos]
  · congr 1
    apply List.ext_getElem?
    intro i
    rw [List.getElem?_map]
    cases hi : R[i]? with
    | none =>
      have : (atsL R)[i]? = none := by
        rw [List.getElem?_eq_none_iff, atsL_len]
        exact List.getElem?_eq_none_iff.1 hi
      rw [this]; rfl
    | some v =>
      obtain ⟨k, h1, h2, -⟩ := atsL_get hi
      rw [h1]
      simp [List.getD_eq_getElem?_getD, h2]
  · rw [List.all_eq_true]
    intro x hx
    simpa using atsL_lt R x hx

theorem bldL_true {R : List V} {most : Int} {W : List V} {A : List Nat} (h : bldL R most = (W, A, true)) : W = wdsL R ∧ A = atsL R ∧ W.length ≤ 256 := by
  unfold bldL at h
  split at h
  · rename_i hc
    injection h with h1 h2
    injection h2 with h2 h3
    refine ⟨h1.symm, h2.symm, ?_⟩
    rw [← h1]
    omega
  · injection h with h1 h2
    injection h2 with h2 h3
    cases h3

theorem ks_cell {w : World} {g : Nat} {x y : Int} (h : w.heap[g]? = some (.cells #[.int .i64 x, .int .i64 y, .int .i64 256] 3)) (k : Nat) (hk : k < 3) : w.cell? ⟨g, k, none⟩ = some (.int .i64 ([x, y, 256].getD k 0)) := by
  rw [cell_of_row w g k _ _ _ h]
  have : k = 0 ∨ k = 1 ∨ k = 2 := by omega
  rcases this with rfl | rfl | rfl <;> rfl

set_option maxRecDepth 100000 in
set_option maxHeartbeats 4000000 in
theorem walk_DictBuilds (a0 : Int) (a1 : Option Addr) (len1 cap1 : Nat) (l1 : List V) (a2 : Option Addr) (len2 cap2 : Nat) (z2 : List Int) (a3 : Int) (w : World) (w0 : (Lit.int .i64 a0).wf = true) (w1 : SeenV w (.slice a1 len1 cap1) l1) (v1 : ∀ v ∈ l1, (Lit.int .i64 v.n).wf = true) (w2 : IsRow .i64 w a2 len2 cap2 z2) (w3 : (Lit.int .i64 a3).wf = true) :
    Calls Try.prog 3 #[.int .i64 a0, .slice a1 len1 cap1, .slice a2 len2 cap2, .int .i64 a3] w fun e w' => e = .returned (.bool true) ∧ Below w.heap.size w w' := by
  obtain ⟨i0, hi, hz0, hz1, hz2⟩ := info_value
  have HS := Lib.hid w1; have HV := Lib.hid v1
  obtain ⟨zl, hzs, hzl, hzw⟩ := w2.seenI
  have HZ := Lib.hid hzs; have HZW := Lib.hid hzw; have HZL := Lib.hid hzl
  have hl2 : len2 ≤ 9223372036854775807 := by
    obtain ⟨_, _, e, h1, h2⟩ := hzs.shape
    injection e with e1 e2 e3
    unfold maxLen at h2
    omega
  have HQ := Lib.hid (fun wx => within13 a0 4 4 wx rfl (by decide) (by decide) w0)
  obtain ⟨K, hK⟩ : ∃ K, K = (a0 % ((4 : Nat) : Int)).toNat := ⟨_, rfl⟩
  have hK4 : K < 4 := by rw [hK]; exact within_lt a0 4 (by decide)
  rw [← hK] at HQ
  have HQ3 := Lib.hid (fun wx => within13 a3 40 40 wx rfl (by decide) (by decide) w3)
  obtain ⟨P, hP⟩ : ∃ P, P = (a3 % ((40 : Nat) : Int)).toNat := ⟨_, rfl⟩
  have hP4 : P < 40 := by rw [hP]; exact within_lt a3 40 (by decide)
  rw [← hP] at HQ3
  have HW3 := Lib.hid w3
  clear w1 v1 w0 w2 w3 hK hP hzs hzw hzl
  go_enter Try.func3, Try.ntmps3
  go_wp2_with fail
  refine (known13_any _).mono ?_
  rintro e wA ⟨rfl, hk⟩
  have HKA := Lib.hid hk
  clear hk
  go_wp2_with fail
  refine (HQ.out _).mono ?_
  rintro e wB ⟨rfl, rfl⟩
  go_wp2_with fail
  obtain ⟨k, hk⟩ : ∃ k, k = K + 1 := ⟨_, rfl⟩
  have hk4 : 1 ≤ k ∧ k ≤ 4 := by omega
  rw [show (1 : Int) + (K : Int) = (k : Int) by omega]
  refine (all11_any k hk4 _ l1 wA (HS.out.keep HKA.out) HV.out).mono ?_
  rintro e wB ⟨x, rfl, hc, ho⟩
  obtain ⟨lo, lc, rfl⟩ := own_shape ho
  have hL60 := allV_len k l1
  have HO := Lib.hid ho
  have HKB := Lib.hid hc
  clear hc ho hk
  go_wp2
  go_loopw [10, 11] (fun r i w' => ∃ (j : Nat) (R : List V), j ≤ 30 ∧ R.length ≤ 60 + j ∧ i = .int .i64 (j : Int) ∧ slen r = R.length ∧ Chg [] wA w' ∧ w'.ownsRow wA.heap.size 28 2 r R.length (R.flatMap V.cs)) (fun _ i _ => 30 - (intOf i).toNat)
  case atStart => exact ⟨0, allV k l1, Nat.zero_le _, by omega, rfl, rfl, HKB.out, HO.out⟩
  case round =>
    obtain ⟨j, R, hj, hR, rfl, hsl, hc, ho⟩ := hrel
    obtain ⟨xo, xc, rfl⟩ := own_shape ho
    obtain ⟨n, hn⟩ : ∃ n, n = R.length := ⟨_, rfl⟩
    rw [← hn] at ho hR ⊢
    have HN := Lib.hid hn
    have HC := Lib.hid hc; have HR := Lib.hid ho
    have hB := hc.size
    clear hc ho hsl hn
    by_cases hgo : j < len2 ∧ j < 30 ∧ 0 < n
    · obtain ⟨g1, g2, g3⟩ := hgo
      have d1 : decide ((j : Int) < (len2 : Int)) = true := by simp; omega
      have d2 : decide ((j : Int) < 30) = true := by simp; omega
      have d3 : decide ((0 : Int) < (n : Int)) = true := by simp; omega
      obtain ⟨gz, oz, rfl, hcz⟩ := SeenI.get (show SeenI wr _ zl from (HZ.out.keep HKA.out).keep HC.out) (by omega) HZL.out.symm
      have x0 := hcz j g1
      have hzj : (Lit.int .i64 (zl.getD j 0)).wf = true := HZW.out _ (by rw [List.getD_eq_getElem?_getD, List.getElem?_eq_getElem (by rw [← HZL.out]; exact g1)]; exact List.getElem_mem _)
      obtain ⟨zj, hzje⟩ : ∃ zj, zj = zl.getD j 0 := ⟨_, rfl⟩
      rw [← hzje] at x0 hzj
      have HI := Lib.hid (fun wx => within13_nat zj n wx (by omega) (by omega) hzj)
      obtain ⟨q, hq⟩ : ∃ q, q = (zj % (n : Int)).toNat := ⟨_, rfl⟩
      have hqn : q < n := by rw [hq]; exact within_lt zj n (by omega)
      rw [← hq] at HI
      obtain ⟨v, hv⟩ : ∃ v, R[q]? = some v := ⟨_, List.getElem?_eq_getElem (by rw [← HN.out]; exact hqn)⟩
      obtain ⟨gr, off, hge, hcell⟩ := SeenV.get (show SeenV wr (.slice xo n xc) R from SeenK.own V.cs_len HR.out HN.out.symm) (by omega)
      subst hge
      obtain ⟨k0, k1⟩ := hcell q v hv
      clear hcz hzje hq hv hcell hzj
      go_wp2_with (first
        | (go_at_call 11; (with_reducible refine (HI.out _).mono ?_); rintro e w3 ⟨rfl, rfl⟩)
        | (at_builtin; refine wpList_append_own _ rfl _ _ 22 rfl wA.heap.size 28 i0 (.agg #[.int .i64 0, .string ByteArray.empty]) 2 24 Try.underlying22 hi hz0 hz1 hz2 rfl (by decide) _ _ _ rfl (HR.out.alloc _) ⟨wr.heap.size, 0, none⟩ 1 1 (V.cs v) rfl rfl ?c1 ?c2 ?c3 ?c4 ?c5 ?_)
        | fail)
      case c1 => exact new_cells (C := #[.int .i64 v.n, .string v.s]) _ rfl
      case c2 => exact V.one _
      case c3 => unfold maxLen; omega
      case c4 => omega
      case c5 => simp; omega
      intro v' w3 hown' hgrow _
      obtain ⟨yo, yc, rfl⟩ := own_shape hown'
      have HC3 := Lib.hid ((HC.out.alloc (vo v)).grown hgrow (fun g hg => .inr (HR.out.lt g hg).1))
      have hll : (R ++ [v]).length = n + 1 := by rw [List.length_append, ← HN.out]; rfl
      have HO3 := Lib.hid (show w3.ownsRow wA.heap.size 28 2 (.slice yo (n + 1) yc) (R ++ [v]).length ((R ++ [v]).flatMap V.cs) by rw [hll, List.flatMap_append]; simpa using hown')
      have HLL := Lib.hid hll
      clear hgrow hown' hll
      go_wp2
      go_roundw
      case rel => exact ⟨j + 1, R ++ [v], g2, by rw [HLL.out]; omega, by go_num, by rw [HLL.out]; rfl, HC3.out, HO3.out⟩
      case measure => simp [intOf]; omega
    · go_upto_region 6 with fail
      go_cut [43] (fun s wx => s = .bool false ∧ wx = wr)
      case first =>
        by_cases g1 : j < len2
        · have d1 : decide (j < len2) = true := by simpa using g1
          by_cases g2 : j < 30
          · have d6 : decide ((0 : Int) < (n : Int)) = false := by
              have d5 : ¬ (0 < n) := by omega
              simpa using d5
            have d4 : decide (0 < n) = false := by
              have d5 : ¬ (0 < n) := by omega
              simpa using d5
            clear hgo
            go_wp2_with fail
            go_meet
            case rel => exact ⟨rfl, rfl⟩
          · go_wp2_with fail
            go_meet
            case rel => exact ⟨rfl, rfl⟩
        · have d1 : decide (j < len2) = false := by simpa using g1
          go_wp2_with fail
          go_meet
          case rel => exact ⟨rfl, rfl⟩
      case rest =>
        obtain ⟨rfl, hwx⟩ := hcut
        subst hwx
        clear hgo
        obtain ⟨wF, rfl⟩ : ∃ wF : World, wF = wc := ⟨_, rfl⟩
        have hn90 : n ≤ 90 := by omega
        go_wp2_with (first
          | (go_at_call 11; (with_reducible refine (HQ3.out _).mono ?_); rintro e w3 ⟨rfl, rfl⟩)
          | fail)
        obtain ⟨gk, hgk⟩ : ∃ gk, gk = wF.heap.size := ⟨_, rfl⟩
        obtain ⟨wk, hwk⟩ : ∃ wk, wk = wF.alloc (.cells #[.int .i64 a3, .int .i64 (P : Int), .int .i64 256] 3) := ⟨_, rfl⟩
        rw [← hwk, ← hgk]
        have HCK := Lib.hid (show Chg [] wF wk by rw [hwk]; exact (Chg.refl [] wF).alloc _)
        have HKS := Lib.hid (show wk.heap[gk]? = some (.cells #[.int .i64 a3, .int .i64 (P : Int), .int .i64 256] 3) by rw [hwk, hgk]; exact heap_alloc_new _ _)
        clear hwk hgk
        go_loopw [13] (fun i w' => ∃ i0 : Nat, i0 ≤ 3 ∧ i = .int .i64 (i0 : Int) ∧ Chg [] wk w') (fun i _ => 3 - (intOf i).toNat)
        case atStart => exact ⟨0, Nat.zero_le _, rfl, Chg.refl _ _⟩
        case round =>
          obtain ⟨jj, hj3, rfl, hc⟩ := hrel
          have HCR := Lib.hid hc
          clear hc
          by_cases hlt3 : jj < 3
          · have d3 : decide ((jj : Int) < 3) = true := by simp; omega
            have b2 : (jj : Int) < 3 := by omega
            obtain ⟨num, hnum⟩ : ∃ num, num = ([a3, (P : Int), 256] : List Int).getD jj 0 := ⟨_, rfl⟩
            have hnw : (Lit.int .i64 num).wf = true := by
              have : jj = 0 ∨ jj = 1 ∨ jj = 2 := by omega
              rcases this with h | h | h
              · rw [hnum, h]; exact HW3.out
              · rw [hnum, h]; exact wf64_of _ (by simp; omega)
              · rw [hnum, h]; exact wf64_of _ (by simp)
            have HCL := Lib.hid (show ∀ wx, Chg [] wr wx → wx.cell? ⟨gk, jj, none⟩ = some (.int .i64 num) from fun wx hc => by
              rw [hnum]
              exact ks_cell (hc.heap (HCR.out.heap HKS.out (by simp)) (by simp)) jj hlt3)
            have HRr := Lib.hid (show wr.ownsRow wA.heap.size 28 2 (.slice xo n xc) n (R.flatMap V.cs) from own_chg (own_chg HR.out HCK.out (by simp)) HCR.out (by simp))
            have HSR := Lib.hid (show SeenV wr (.slice xo n xc) R from SeenK.own V.cs_len HRr.out HN.out.symm)
            obtain ⟨W, A, b, hb⟩ : ∃ W A b, bldL R num = (W, A, b) := ⟨_, _, _, rfl⟩
            have HBL := Lib.hid hb
            have HB1 := Lib.hid (fun (wx : World) (lv : Value) (hs : SeenV wx lv R) => bld13 (k : Int) lv R W A b num wx hs (by rw [← HN.out]; omega) hnw hb)
            have HB2 := Lib.hid (fun (wx : World) (hc : Chg [] wr wx) => show Calls Try.prog 14 #[.slice xo n xc, .int .i64 num] wx fun e w' => ∃ wo wc tp tc, e = .returned (.tuple #[.slice wo W.length wc, .slice tp A.length tc, .bool b]) ∧ Chg [] wx w' ∧ SeenV w' (.slice wo W.length wc) W ∧ w'.ownsRow wx.heap.size 3 1 (.slice tp A.length tc) A.length (nv .i64 A) from (rbuild_any _ R num wx (HSR.out.keep hc) (by rw [← HN.out]; omega) hnw).mono (by
              rintro e w' ⟨wv, av, rfl, hc, ho, ha⟩
              rw [hb] at ho ha ⊢
              obtain ⟨wo, wc, rfl⟩ := own_shape ho
              obtain ⟨tp, tc, rfl⟩ := own_shape ha
              exact ⟨wo, wc, tp, tc, rfl, hc, SeenK.own V.cs_len ho rfl, ha⟩))
            obtain ⟨m, hm⟩ : ∃ m, m = W.length := ⟨_, rfl⟩
            obtain ⟨a, ha⟩ : ∃ a, a = A.length := ⟨_, rfl⟩
            rw [← hm, ← ha] at HB1 HB2
            have HM := Lib.hid hm; have HAL := Lib.hid ha
            have ha90 : a ≤ 100 := by
              rw [ha]
              unfold bldL at hb
              split at hb
              · injection hb with h1 h2
                injection h2 with h2 h3
                rw [← h2, atsL_len, ← HN.out]; omega
              · injection hb with h1 h2
                injection h2 with h2 h3
                rw [← h2]; simp
            have HOL := Lib.hid (own_lit wr.drew wr.heap.size wr.heap.size rfl (Nat.le_refl _) 28 #[] [] 0 2 rfl rfl (by decide))
            have HSL := Lib.hid (own_chg HRr.out ((Chg.refl [] wr).drew.alloc (.cells #[] 28)) (by simp))
            have HSB := Lib.hid (show wr.heap.size ≤ (wr.drew.alloc (.cells #[] 28)).heap.size from ((Chg.refl [] wr).drew.alloc (.cells #[] 28)).size)
            have HLN := Lib.hid (show ([] : List V).length + R.length ≤ 1000000 by rw [← HN.out]; simp; omega)
            have HSL2 := Lib.hid (show (wr.drew.alloc (.cells #[] 28)).ownsRow wA.heap.size 28 2 (.slice xo n xc) R.length (R.flatMap V.cs) by rw [← HN.out]; exact HSL.out)
            have q1 := HCL.out wr (Chg.refl _ _)
            have q2 := HCL.out wr.drew (Chg.refl _ _).drew
            have q3 := HCL.out (wr.alloc (.cells #[] 28)) ((Chg.refl _ _).alloc _)
            have q4 := HCL.out (wr.drew.alloc (.cells #[] 28)) ((Chg.refl _ _).drew.alloc _)
            clear hb hm ha hnum hnw
            cases b with
            | false =>
              go_upto_region 13 with fail
              go_cut [14, 15, 16] (fun s14 s15 s16 wx => ∃ wo wc1 tp tc, s14 = .slice wo m wc1 ∧ s15 = .slice tp a tc ∧ s16 = .bool false ∧ Chg [] wr wx ∧ SeenV wx (.slice wo m wc1) W ∧ Seen wx (.slice tp a tc) (nv .i64 A))
              case first =>
                go_region_held3 (fun w' => w'.cell? ⟨gk, jj, none⟩ = some (.int .i64 num)) (first | exact q1 | exact q2 | exact q3 | exact q4 | exact s1 | exact u1) (first
                  | (refine step_append_V (by rfl) (.tmp 69) (.tmp 70) (by rfl) wr.heap.size wA.heap.size (.slice (some ⟨wr.heap.size, 0, none⟩) 0 0) (.slice xo n xc) [] R (by rfl) (by rfl) HOL.out HSL2.out HLN.out HSB.out ?_; intro v10 w10 hown hgrow; rw [List.nil_append, ← HN.out] at hown; obtain ⟨va, vc, rfl⟩ := own_shape hown; have HC10 := Lib.hid (show Chg [] wr w10 from (((Chg.refl [] wr).drew.alloc (.cells #[] 28)).grown hgrow (fun g hg => .inr (HOL.out.lt g hg).1))); have HS10 := Lib.hid (show SeenV w10 (.slice va n vc) R from SeenK.own V.cs_len hown HN.out.symm); have s1 := HCL.out w10 HC10.out; clear hown hgrow)
                  | (go_simp; go_at_call 13; (with_reducible refine (HB1.out _ _ HS10.out).mono ?_); rintro e w11 ⟨wo, wc1, tp, tc, rfl, hk1, hs1, ht1⟩; have HC11 := Lib.hid (HC10.out.trans hk1 (by simp)); have HS11 := Lib.hid hs1; have HT11 := Lib.hid (reads_of_own ht1).seen; have u1 := HCL.out w11 HC11.out; clear hk1 hs1 ht1))
                all_goals
                  try go_wp2
                  go_meet
                  case rel => exact ⟨wo, wc1, tp, tc, rfl, rfl, rfl, HC11.out, HS11.out, HT11.out⟩
              case rest =>
              obtain ⟨wo, wc1, tp, tc, rfl, rfl, rfl, hc11, hs11, ht11⟩ := hcut
              have HC11 := Lib.hid hc11; have HS11 := Lib.hid hs11; have HT11 := Lib.hid ht11
              have u1 := HCL.out wc hc11
              clear hc11 hs11 ht11 q1 q2 q3 q4
              go_wp2_with (first
                | (go_at_call 14; (with_reducible refine (HB2.out _ HC11.out).mono ?_); rintro e w12 ⟨yo, yc, sp, sc, rfl, hk1, hs1, ht1⟩; have HK12 := Lib.hid hk1; have HC12 := Lib.hid (HC11.out.trans hk1 (by simp)); have HS12 := Lib.hid hs1; have HT12 := Lib.hid (reads_of_own ht1).seen; have HSA := Lib.hid (show SeenV w12 (.slice wo m wc1) W from HS11.out.keep hk1); have HTA := Lib.hid (HT11.out.keep hk1); clear hk1 hs1 ht1)
                | (go_at_call 15; (with_reducible refine (same11_any _ _ W _ HSA.out HS12.out).mono ?_); rintro e w13 ⟨rfl, hk1⟩; have HK13 := Lib.hid hk1; have HC13 := Lib.hid (HC12.out.trans hk1 (by simp)); clear hk1)
                | (go_at_call 16; (with_reducible refine (ints13_any _ _ A A _ (HTA.out.keep HK13.out) (HT12.out.keep HK13.out) (by have := HAL.out; omega) (by have := HAL.out; omega)).mono ?_); rintro e w14 ⟨⟨r, rfl, hr⟩, hk1⟩; obtain rfl : r = true := hr.2 rfl; have HK15 := Lib.hid (HK13.out.trans hk1 (by simp)); have HC15 := Lib.hid (HC13.out.trans hk1 (by simp)); clear hk1 hr)
                | fail)
              go_wp2
              go_roundw
              case rel => exact ⟨jj + 1, hlt3, by go_num, HCR.out.trans HC15.out (by simp)⟩
              case measure => simp [intOf]; omega
            | true =>
              go_upto_region 13 with fail
              go_cut [14, 15, 16] (fun s14 s15 s16 wx => ∃ wo wc1 tp tc, s14 = .slice wo m wc1 ∧ s15 = .slice tp a tc ∧ s16 = .bool true ∧ Chg [] wr wx ∧ SeenV wx (.slice wo m wc1) W ∧ Seen wx (.slice tp a tc) (nv .i64 A))
              case first =>
                go_region_held3 (fun w' => w'.cell? ⟨gk, jj, none⟩ = some (.int .i64 num)) (first | exact q1 | exact q2 | exact q3 | exact q4 | exact s1 | exact u1) (first
                  | (refine step_append_V (by rfl) (.tmp 69) (.tmp 70) (by rfl) wr.heap.size wA.heap.size (.slice (some ⟨wr.heap.size, 0, none⟩) 0 0) (.slice xo n xc) [] R (by rfl) (by rfl) HOL.out HSL2.out HLN.out HSB.out ?_; intro v10 w10 hown hgrow; rw [List.nil_append, ← HN.out] at hown; obtain ⟨va, vc, rfl⟩ := own_shape hown; have HC10 := Lib.hid (show Chg [] wr w10 from (((Chg.refl [] wr).drew.alloc (.cells #[] 28)).grown hgrow (fun g hg => .inr (HOL.out.lt g hg).1))); have HS10 := Lib.hid (show SeenV w10 (.slice va n vc) R from SeenK.own V.cs_len hown HN.out.symm); have s1 := HCL.out w10 HC10.out; clear hown hgrow)
                  | (go_simp; go_at_call 13; (with_reducible refine (HB1.out _ _ HS10.out).mono ?_); rintro e w11 ⟨wo, wc1, tp, tc, rfl, hk1, hs1, ht1⟩; have HC11 := Lib.hid (HC10.out.trans hk1 (by simp)); have HS11 := Lib.hid hs1; have HT11 := Lib.hid (reads_of_own ht1).seen; have u1 := HCL.out w11 HC11.out; clear hk1 hs1 ht1))
                all_goals
                  try go_wp2
                  go_meet
                  case rel => exact ⟨wo, wc1, tp, tc, rfl, rfl, rfl, HC11.out, HS11.out, HT11.out⟩
              case rest =>
              obtain ⟨wo, wc1, tp, tc, rfl, rfl, rfl, hc11, hs11, ht11⟩ := hcut
              have HC11 := Lib.hid hc11; have HS11 := Lib.hid hs11; have HT11 := Lib.hid ht11
              have u1 := HCL.out wc hc11
              clear hc11 hs11 ht11 q1 q2 q3 q4
              go_wp2_with (first
                | (go_at_call 14; (with_reducible refine (HB2.out _ HC11.out).mono ?_); rintro e w12 ⟨yo, yc, sp, sc, rfl, hk1, hs1, ht1⟩; have HK12 := Lib.hid hk1; have HC12 := Lib.hid (HC11.out.trans hk1 (by simp)); have HS12 := Lib.hid hs1; have HT12 := Lib.hid (reads_of_own ht1).seen; have HSA := Lib.hid (show SeenV w12 (.slice wo m wc1) W from HS11.out.keep hk1); have HTA := Lib.hid (HT11.out.keep hk1); clear hk1 hs1 ht1)
                | (go_at_call 15; (with_reducible refine (same11_any _ _ W _ HSA.out HS12.out).mono ?_); rintro e w13 ⟨rfl, hk1⟩; have HK13 := Lib.hid hk1; have HC13 := Lib.hid (HC12.out.trans hk1 (by simp)); clear hk1)
                | (go_at_call 16; (with_reducible refine (ints13_any _ _ A A _ (HTA.out.keep HK13.out) (HT12.out.keep HK13.out) (by have := HAL.out; omega) (by have := HAL.out; omega)).mono ?_); rintro e w14 ⟨⟨r, rfl, hr⟩, hk1⟩; obtain rfl : r = true := hr.2 rfl; have HK15 := Lib.hid (HK13.out.trans hk1 (by simp)); have HC15 := Lib.hid (HC13.out.trans hk1 (by simp)); clear hk1 hr)
                | fail)
              obtain ⟨hWe, hAe, hW256⟩ := bldL_true HBL.out
              have HAn := Lib.hid (show a = n by rw [HAL.out, hAe, atsL_len, ← HN.out])
              have hm256 : m ≤ 256 := by rw [HM.out]; exact hW256
              have hAlt : ∀ x ∈ A, x < m := by rw [HM.out, hAe, hWe]; exact atsL_lt R
              have HE1 := Lib.hid (fun (wx : World) (av : Value) (hs : Seen wx av (nv .i64 A)) => dencode_any av A m wx hs hm256 hAlt (by rw [← HAL.out]; omega))
              have HE2 := Lib.hid (fun (wx : World) (av : Value) (hs : Seen wx av (nv .i64 A)) => rencode13_any av A m wx hs hm256 hAlt (by rw [← HAL.out]; omega))
              have HEB := Lib.hid (encZ_bytes (widD m) A)
              have HD := Lib.hid (show ddecW (encZ (widD m) A) (n : Int) W = (R, 0) by
                have h := back13 R (by rw [← HN.out]; omega) (by rw [← hWe]; exact hW256)
                rw [← hWe, ← hAe, ← HM.out, ← HN.out] at h
                exact h)
              obtain ⟨E, hE⟩ : ∃ E, E = encZ (widD m) A := ⟨_, rfl⟩
              rw [← hE] at HE1 HE2 HEB HD
              obtain ⟨bb, hbb⟩ : ∃ bb, bb = E.length := ⟨_, rfl⟩
              have HBB := Lib.hid hbb
              clear hE hbb hWe hAe hW256 hAlt
              have HENC := Lib.hid (show ∀ wx av, Seen wx av (nv .i64 A) → Calls Try.prog 17 #[av, .int .i64 (m : Int)] wx fun e w' => ∃ bo bc, e = .returned (.slice bo bb bc) ∧ Chg [] wx w' ∧ Seen w' (.slice bo bb bc) (nv .u8 E) from fun wx av hs => by
                refine (HE1.out wx av hs).mono ?_
                rintro e w' ⟨bv, rfl, hk, ho⟩
                rw [← HBB.out] at ho
                obtain ⟨bo, bc, rfl⟩ := own_shape ho
                exact ⟨bo, bc, rfl, hk, (reads_of_own ho).seen⟩)
              have HREF := Lib.hid (show ∀ wx av, Seen wx av (nv .i64 A) → Calls Try.prog 19 #[av, .int .i64 (m : Int)] wx fun e w' => ∃ bo bc, e = .returned (.slice bo bb bc) ∧ Chg [] wx w' ∧ Seen w' (.slice bo bb bc) (nv .u8 E) from fun wx av hs => by
                refine (HE2.out wx av hs).mono ?_
                rintro e w' ⟨bv, rfl, hk, ho⟩
                rw [← HBB.out] at ho
                obtain ⟨bo, bc, rfl⟩ := own_shape ho
                exact ⟨bo, bc, rfl, hk, (reads_of_own ho).seen⟩)
              have HDEC := Lib.hid (show ∀ wx bv wv, Seen wx bv (nv .u8 E) → SeenV wx wv W → Calls Try.prog 18 #[bv, .int .i64 (n : Int), wv] wx fun e w' => ∃ zo zc, e = .returned (.tuple #[.slice zo n zc, .int .i64 0]) ∧ Chg [] wx w' ∧ SeenV w' (.slice zo n zc) R from fun wx bv wv hs hw => by
                refine (ddecode13_any bv E (n : Int) wv W wx hs HEB.out hw).mono ?_
                rintro e w' ⟨xv, rfl, hk, ho⟩
                rw [HD.out] at ho ⊢
                obtain ⟨zo, zc, rfl⟩ := own_shape ho
                rw [← HN.out]
                rw [← HN.out] at ho
                exact ⟨zo, zc, rfl, hk, SeenK.own V.cs_len ho HN.out.symm⟩)
              go_wp2_with (first
                | (go_at_call 17; (with_reducible refine (HENC.out _ _ (HTA.out.keep HK15.out)).mono ?_); rintro e w16 ⟨bo, bc, rfl, hk1, hs1⟩; have HK16 := Lib.hid (HK15.out.trans hk1 (by simp)); have HC16 := Lib.hid (HC15.out.trans hk1 (by simp)); have HB16 := Lib.hid hs1; clear hk1 hs1)
                | (go_at_call 18; (with_reducible refine (HDEC.out _ _ _ HB16.out (HSA.out.keep HK16.out)).mono ?_); rintro e w17 ⟨zo, zc, rfl, hk1, hs1⟩; have HK17 := Lib.hid (HK16.out.trans hk1 (by simp)); have HC17 := Lib.hid (HC16.out.trans hk1 (by simp)); have HB17 := Lib.hid (HB16.out.keep hk1); have HX17 := Lib.hid hs1; clear hk1 hs1)
                | fail)
              obtain ⟨sE, hsE⟩ : ∃ s, s = str E := ⟨_, rfl⟩
              have HSE := Lib.hid hsE
              clear hsE
              have hcv := cvp HB17.out HBB.out HSE.out HEB.out
              have HIN := Lib.hid (show ∀ wx, Chg [] w17 wx → Calls Try.prog 15 #[.slice zo n zc, .slice xo n xc] wx fun e w' => e = .returned (.bool true) ∧ Chg [] wx w' from fun wx hk =>
                same11_any _ _ R wx (HX17.out.keep hk) ((HSR.out.keep HC17.out).keep hk))
              have HTF := Lib.hid (HT12.out.keep HK17.out)
              have hee : (sE.toList != sE.toList) = false := by simp
              have hSS := Lib.hid (show ∀ w', Chg [] w17 w' → (convert 34 9 (.slice bo bb bc)).run Try.prog w' = .ok (.string sE) w' from fun w' hk => hcv w' (Lib.hid hk))
              have HSS := hSS
              clear hcv hSS u1
              go_upto_region 20 with fail
              refine wp_region_held_drew (S := (fun w' => (convert 34 9 (.slice bo bb bc)).run Try.prog w' = .ok (.string sE) w')) (by kernel_rfl) (HSS.out _ (Chg.refl _ _).drew) (fun hHeld => ?_)
              refine wpAnyH_take (i := 0) (oi := _) (v := ?_) rfl (by kernel_rfl) (by kernel_rfl) (by kernel_rfl) (fun _ _ _ h => h) (Or.inl ⟨by rfl, ?_⟩) (by assumption) ?_
              rotate_left
              · intro w hSw; (try dsimp only at hSw); go_simp; (try with_reducible rfl)
              try simp only [List.getElem_toArray, List.getElem_cons_succ, List.getElem_cons_zero, Act.put, List.setIfInBounds_toArray, List.set_cons_zero, List.set_cons_succ]
              refine wpAnyH_take (i := 1) (oi := _) (v := ?_) rfl (by kernel_rfl) (by kernel_rfl) (by kernel_rfl) (fun _ _ _ h => h) (Or.inl ⟨by rfl, ?_⟩) (by assumption) ?_
              rotate_left
              · intro w hSw; (try dsimp only at hSw); go_simp; (try with_reducible rfl)
              try simp only [List.getElem_toArray, List.getElem_cons_succ, List.getElem_cons_zero, Act.put, List.setIfInBounds_toArray, List.set_cons_zero, List.set_cons_succ]
              refine wpAnyH_take (i := 2) (oi := _) (v := ?_) rfl (by kernel_rfl) (by kernel_rfl) (by kernel_rfl) (fun _ _ _ h => h) (Or.inl ⟨by rfl, ?_⟩) (by assumption) ?_
              rotate_left
              · intro w hSw; (try dsimp only at hSw); go_simp; (try with_reducible rfl)
              try simp only [List.getElem_toArray, List.getElem_cons_succ, List.getElem_cons_zero, Act.put, List.setIfInBounds_toArray, List.set_cons_zero, List.set_cons_succ]
              refine wpAnyH_take (i := 3) (oi := _) (v := ?_) rfl (by kernel_rfl) (by kernel_rfl) (by kernel_rfl) (fun _ _ _ h => h) (Or.inl ⟨by rfl, ?_⟩) (by assumption) ?_
              rotate_left
              · intro w hSw; (try dsimp only at hSw); go_simp; (try with_reducible rfl)
              try simp only [List.getElem_toArray, List.getElem_cons_succ, List.getElem_cons_zero, Act.put, List.setIfInBounds_toArray, List.set_cons_zero, List.set_cons_succ]
              refine wpAnyH_take (i := 4) (oi := _) (v := ?_) rfl (by kernel_rfl) (by kernel_rfl) (by kernel_rfl) (fun _ _ _ h => h) (Or.inl ⟨by rfl, ?_⟩) (by assumption) ?_
              rotate_left
              · intro w hSw; (try dsimp only at hSw); go_simp; (try with_reducible rfl)
              try simp only [List.getElem_toArray, List.getElem_cons_succ, List.getElem_cons_zero, Act.put, List.setIfInBounds_toArray, List.set_cons_zero, List.set_cons_succ]
              refine wpAnyH_ready (rs := [5]) (by kernel_rfl) (by simp) ?_
              refine AllReadyH.cons (o := _) rfl (fun K hK => ?_) AllReadyH.nil
              go_simp
              go_at_call 19
              refine (HREF.out _ _ (HTF.out.keep (Chg.refl [] w17).drew)).mono ?_
              rintro e w18 ⟨ro, rc, rfl, hk5, hs5⟩
              have HC18 : Hid (Chg [] w17 w18) := Lib.hid ((Chg.refl [] w17).drew.trans hk5 (by simp))
              have hcv5 := cvp hs5 HBB.out HSE.out HEB.out w18 (Lib.hid (Chg.refl [] w18))
              clear hk5 hs5
              refine hK.out _ _ (HSS.out _ HC18.out) (fun hHeld5 => ?_)
              clear hK K
              try simp only [Act.put, List.setIfInBounds_toArray, List.set_cons_zero, List.set_cons_succ]
              refine wpAnyH_ready (rs := [6]) (by kernel_rfl) (by simp) ?_
              refine AllReadyH.cons (o := _) rfl (fun K hK => ?_) AllReadyH.nil
              go_simp
              refine hK.out _ _ (HSS.out _ HC18.out) (fun hHeld6 => ?_)
              clear hK K
              try simp only [Act.put, List.setIfInBounds_toArray, List.set_cons_zero, List.set_cons_succ]
              refine wpAnyH_take (i := 7) (oi := _) (v := ?_) rfl (by kernel_rfl) (by kernel_rfl) (by kernel_rfl) (fun _ _ _ h => h) (Or.inl ⟨by rfl, ?_⟩) (by assumption) ?_
              rotate_left
              · intro w hSw; (try dsimp only at hSw); go_simp; (try with_reducible rfl)
              try simp only [List.getElem_toArray, List.getElem_cons_succ, List.getElem_cons_zero, Act.put, List.setIfInBounds_toArray, List.set_cons_zero, List.set_cons_succ]
              refine wpAnyH_take (i := 8) (oi := _) (v := ?_) rfl (by kernel_rfl) (by kernel_rfl) (by kernel_rfl) (fun _ _ _ h => h) (Or.inl ⟨by rfl, ?_⟩) (by assumption) ?_
              rotate_left
              · intro w hSw; (try dsimp only at hSw); go_simp; (try with_reducible rfl)
              try simp only [List.getElem_toArray, List.getElem_cons_succ, List.getElem_cons_zero, Act.put, List.setIfInBounds_toArray, List.set_cons_zero, List.set_cons_succ]
              refine wpAnyH_take (i := 9) (oi := _) (v := ?_) rfl (by kernel_rfl) (by kernel_rfl) (by kernel_rfl) (fun _ _ _ h => h) (Or.inl ⟨by rfl, ?_⟩) (by assumption) ?_
              rotate_left
              · intro w hSw; (try dsimp only at hSw); go_simp; (try with_reducible rfl)
              try simp only [List.getElem_toArray, List.getElem_cons_succ, List.getElem_cons_zero, Act.put, List.setIfInBounds_toArray, List.set_cons_zero, List.set_cons_succ]
              refine wpAnyH_take (i := 10) (oi := _) (v := ?_) rfl (by kernel_rfl) (by kernel_rfl) (by kernel_rfl) (fun _ _ _ h => h) (Or.inl ⟨by rfl, ?_⟩) (by assumption) ?_
              rotate_left
              · intro w hSw; (try dsimp only at hSw); go_simp; (try with_reducible rfl)
              try simp only [List.getElem_toArray, List.getElem_cons_succ, List.getElem_cons_zero, Act.put, List.setIfInBounds_toArray, List.set_cons_zero, List.set_cons_succ]
              refine wpAnyH_take (i := 11) (oi := _) (v := ?_) rfl (by kernel_rfl) (by kernel_rfl) (by kernel_rfl) (fun _ _ _ h => h) (Or.inl ⟨by rfl, ?_⟩) (by assumption) ?_
              rotate_left
              · intro w hSw; (try dsimp only at hSw); go_simp; (try with_reducible rfl)
              try simp only [List.getElem_toArray, List.getElem_cons_succ, List.getElem_cons_zero, Act.put, List.setIfInBounds_toArray, List.set_cons_zero, List.set_cons_succ]
              refine wpAnyH_take (i := 12) (oi := _) (v := ?_) rfl (by kernel_rfl) (by kernel_rfl) (by kernel_rfl) (fun _ _ _ h => h) (Or.inl ⟨by rfl, ?_⟩) (by assumption) ?_
              rotate_left
              · intro w hSw; (try dsimp only at hSw); go_simp; (try with_reducible rfl)
              try simp only [List.getElem_toArray, List.getElem_cons_succ, List.getElem_cons_zero, Act.put, List.setIfInBounds_toArray, List.set_cons_zero, List.set_cons_succ]
              refine wpAnyH_take (i := 13) (oi := _) (v := ?_) rfl (by kernel_rfl) (by kernel_rfl) (by kernel_rfl) (fun _ _ _ h => h) (Or.inl ⟨by rfl, ?_⟩) (by assumption) ?_
              rotate_left
              · intro w hSw; (try dsimp only at hSw); go_simp; (try with_reducible rfl)
              try simp only [List.getElem_toArray, List.getElem_cons_succ, List.getElem_cons_zero, Act.put, List.setIfInBounds_toArray, List.set_cons_zero, List.set_cons_succ]
              refine wpAnyH_take (i := 14) (oi := _) (v := ?_) rfl (by kernel_rfl) (by kernel_rfl) (by kernel_rfl) (fun _ _ _ h => h) (Or.inl ⟨by rfl, ?_⟩) (by assumption) ?_
              rotate_left
              · intro w hSw; (try dsimp only at hSw); go_simp; (try with_reducible rfl)
              try simp only [List.getElem_toArray, List.getElem_cons_succ, List.getElem_cons_zero, Act.put, List.setIfInBounds_toArray, List.set_cons_zero, List.set_cons_succ]
              refine wpAnyH_ready (rs := [15]) (by kernel_rfl) (by simp) ?_
              refine AllReadyH.cons (o := _) rfl (fun K hK => ?_) AllReadyH.nil
              go_simp
              go_at_call 15
              refine (HIN.out _ HC18.out).mono ?_
              rintro e w19 ⟨rfl, hk6⟩
              have HC19 : Hid (Chg [] w17 w19) := Lib.hid (HC18.out.trans hk6 (by simp))
              clear hk6
              refine hK.out _ _ (HSS.out _ HC19.out) (fun hHeld7 => ?_)
              clear hK K
              try simp only [Act.put, List.setIfInBounds_toArray, List.set_cons_zero, List.set_cons_succ]
              refine wpAnyH_take (i := 16) (oi := _) (v := ?_) rfl (by kernel_rfl) (by kernel_rfl) (by kernel_rfl) (fun _ _ _ h => h) (Or.inl ⟨by rfl, ?_⟩) (by assumption) ?_
              rotate_left
              · intro w hSw; (try dsimp only at hSw); go_simp; (try with_reducible rfl)
              try simp only [List.getElem_toArray, List.getElem_cons_succ, List.getElem_cons_zero, Act.put, List.setIfInBounds_toArray, List.set_cons_zero, List.set_cons_succ]
              refine wpAnyH_take (i := 17) (oi := _) (v := ?_) rfl (by kernel_rfl) (by kernel_rfl) (by kernel_rfl) (fun _ _ _ h => h) (Or.inl ⟨by rfl, ?_⟩) (by assumption) ?_
              rotate_left
              · intro w hSw; (try dsimp only at hSw); go_simp; (try with_reducible rfl)
              try simp only [List.getElem_toArray, List.getElem_cons_succ, List.getElem_cons_zero, Act.put, List.setIfInBounds_toArray, List.set_cons_zero, List.set_cons_succ]
              refine wpAnyH_done (by kernel_rfl) ?_ _
              have HC20 := Lib.hid (HC17.out.trans HC19.out (by simp))
              go_wp2
              go_roundw
              case rel => exact ⟨jj + 1, hlt3, by go_num, HCR.out.trans HC20.out (by simp)⟩
              case measure => simp [intOf]; omega
          · have d3 : decide ((jj : Int) < 3) = false := by simp; omega
            go_wp2
            go_ret
            exact ⟨rfl, (HKA.out.trans (HC.out.trans (HCK.out.trans HCR.out (by simp)) (by simp)) (by simp)).below (Nat.le_refl _) (by simp)⟩

end Go.Proofs.Ytegidbbigjhapaa
