/- The walk of the statement DictOne. -/
import Derived.Test.YtegidbbigjhapaaEh
import Derived.Deep.RegionLaw
namespace Go.Proofs.Ytegidbbigjhapaa
open Go.RowKit
set_option linter.unusedVariables false
set_option linter.unusedSimpArgs false

theorem wds_rep (v : V) : ∀ n, wdsL (List.replicate (n + 1) v) = [v]
  | 0 => rfl
  | n + 1 => by rw [List.replicate_succ', wdsL_snoc, wds_rep v n]; exact addW_in (by simp)
theorem ats_rep (v : V) (n : Nat) : atsL (List.replicate (n + 1) v) = List.replicate (n + 1) 0 := by
  unfold atsL
  rw [wds_rep, List.map_replicate]
  congr 1
  unfold plcV
  simp [List.findIdx_cons]
theorem one_bld (v : V) (n : Nat) (h : 0 < n) : bldL (List.replicate n v) 1 = ([v], List.replicate n 0, true) := by
  obtain ⟨k, rfl⟩ : ∃ k, n = k + 1 := ⟨n - 1, by omega⟩
  rw [bldL_in (by decide) (by rw [wds_rep]; simp), wds_rep, ats_rep]
theorem one_none (v : V) (n : Nat) (h : 0 < n) : bldL (List.replicate n v) 0 = ([], [], false) := by
  obtain ⟨k, rfl⟩ : ∃ k, n = k + 1 := ⟨n - 1, by omega⟩
  unfold bldL
  rw [if_neg]
  rw [wds_rep]
  simp
theorem wid_one : widD 1 = 0 := blen_zero
theorem one_dec (v : V) (n : Nat) (h : n ≤ 4000) : ddecW [] (n : Int) [v] = (List.replicate n v, 0) := by
  have e : decA [] (n : Int) ((widD 1 : Nat) : Int) = (0, List.replicate n 0) := by
    rw [wid_one]
    unfold decA
    rw [if_neg (by omega), if_pos (by rfl), if_pos rfl]
    simp
  unfold ddecW
  rw [if_neg (by simp), show [v].length = 1 from rfl, e, if_neg (by simp), if_pos]
  · simp
  · simp
theorem one_enc (A : List Nat) : encZ (widD 1) A = [] := by rw [wid_one]; rfl

set_option maxRecDepth 100000 in
set_option maxHeartbeats 4000000 in
theorem walk_DictOne (a0 : Int) (a1 : ByteArray) (w : World) (w0 : (Lit.int .i64 a0).wf = true) (w1 : a1.size ≤ maxLen) :
    Calls Try.prog 6 #[.int .i64 a0, .string a1] w fun e w' => e = .returned (.bool true) ∧ Below w.heap.size w w' := by
  obtain ⟨i0, hi, hz0, hz1, hz2⟩ := info_value
  have HQ := Lib.hid (fun wx => within13 a0 100 100 wx rfl (by decide) (by decide) w0)
  obtain ⟨K, hK⟩ : ∃ K, K = (a0 % ((100 : Nat) : Int)).toNat := ⟨_, rfl⟩
  have hK4 : K < 100 := by rw [hK]; exact within_lt a0 100 (by decide)
  rw [← hK] at HQ
  clear w0 hK
  by_cases h50 : 50 < a1.size
  · go_enter Try.func6, Try.ntmps6
    go_wp2_with fail
    refine (known13_any _).mono ?_
    rintro e wA ⟨rfl, hk⟩
    go_wp2_with fail
    go_ret
    exact ⟨rfl, hk.below (Nat.le_refl _) (by simp)⟩
  obtain ⟨v, hv⟩ : ∃ v : V, v = ⟨0, a1⟩ := ⟨_, rfl⟩
  obtain ⟨n, hn⟩ : ∃ n, n = K + 1 := ⟨_, rfl⟩
  have hn0 : 0 < n ∧ n ≤ 100 := by omega
  have HB1 := Lib.hid (one_bld v n hn0.1)
  have HB2 := Lib.hid (one_none v n hn0.1)
  have HDC := Lib.hid (one_dec v n (by omega))
  have hKn : (1 : Int) + (K : Int) = (n : Int) := by omega
  clear hn
  go_enter Try.func6, Try.ntmps6
  go_wp2_with fail
  refine (known13_any _).mono ?_
  rintro e wA ⟨rfl, hk⟩
  have HKA := Lib.hid hk
  clear hk
  go_wp2_with fail
  refine (HQ.out _).mono ?_
  rintro e wB ⟨rfl, rfl⟩
  go_wp2_with fail
  go_loopw [5, 6] (fun x i w' => ∃ j : Nat, j ≤ n ∧ i = .int .i64 (j : Int) ∧ Chg [] wA w' ∧ w'.ownsRow wA.heap.size 28 2 x j ((List.replicate j v).flatMap V.cs)) (fun _ i _ => n - (intOf i).toNat)
  case atStart => exact ⟨0, Nat.zero_le _, rfl, Chg.refl _ _, by simpa using World.ownsRow_nil _ _ _ _⟩
  case round =>
    obtain ⟨j, hj, rfl, hc, ho⟩ := hrel
    obtain ⟨xo, xc, rfl⟩ := own_shape ho
    have HC := Lib.hid hc; have HO := Lib.hid ho
    have hB := hc.size
    clear hc ho
    by_cases hlt : j < n
    · have d1 : decide ((j : Int) < (n : Int)) = true := by simp; omega
      go_wp2_with (first
        | (at_builtin; refine wpList_append_own _ rfl _ _ 22 rfl wA.heap.size 28 i0 (.agg #[.int .i64 0, .string ByteArray.empty]) 2 24 Try.underlying22 hi hz0 hz1 hz2 rfl (by decide) _ _ _ rfl (HO.out.alloc _) ⟨wr.heap.size, 0, none⟩ 1 1 (V.cs ⟨0, a1⟩) rfl rfl ?c1 ?c2 ?c3 ?c4 ?c5 ?_)
        | fail)
      case c1 => exact new_cells (C := #[.int .i64 0, .string a1]) _ rfl
      case c2 => exact V.one _
      case c3 => unfold maxLen; omega
      case c4 => omega
      case c5 => simp; omega
      intro v' w3 hown' hgrow _
      have HG3 := Lib.hid ((HC.out.alloc (.cells #[.int .i64 0, .string a1] 28)).grown hgrow (fun g hg => .inr (HO.out.lt g hg).1))
      have HO3 := Lib.hid (show w3.ownsRow wA.heap.size 28 2 v' (j + 1) ((List.replicate (j + 1) v).flatMap V.cs) by rw [List.replicate_succ', List.flatMap_append, hv]; simpa using hown')
      clear hgrow hown'
      go_wp2
      go_roundw
      case rel => exact ⟨j + 1, hlt, by go_num, HG3.out, HO3.out⟩
      case measure => simp [intOf]; omega
    · have d1 : decide ((j : Int) < (n : Int)) = false := by simp; omega
      obtain rfl : j = n := by omega
      have HL := Lib.hid (show SeenV wr (.slice xo j xc) (List.replicate j v) from SeenK.own V.cs_len HO.out (by simp))
      have HK := Lib.hid (show Chg [] w wr from HKA.out.trans HC.out (by simp))
      have HBA := Lib.hid (fun (kd : Int) (wx : World) (hs : Chg [] wr wx) => bld13 kd _ (List.replicate j v) [v] (List.replicate j 0) true 1 wx (HL.out.keep hs) (by simp; omega) rfl HB1.out)
      have HBB := Lib.hid (fun (kd : Int) (wx : World) (hs : Chg [] wr wx) => bld13 kd _ (List.replicate j v) [] [] false 0 wx (HL.out.keep hs) (by simp; omega) rfl HB2.out)
      simp only [List.length_replicate, List.length_cons, List.length_nil] at HBA HBB
      go_wp2_with fail
      refine (HBA.out 4 wr (Chg.refl _ _)).mono ?_
      rintro e wC ⟨wo, wc, tp, tc, rfl, hc, hs, ha⟩
      have HCC := Lib.hid hc; have HSW := Lib.hid hs; have HTA := Lib.hid ha
      clear hc hs ha
      go_wp2_with fail
      refine (ddecode13_any (.slice none 0 0) [] (j : Int) _ [v] wC (Seen.nil wC) (by simp) HSW.out).mono ?_
      rintro e wD ⟨xv, rfl, hc, ho⟩
      rw [HDC.out] at ho ⊢
      simp only [List.length_replicate] at ho
      obtain ⟨xo2, xc2, rfl⟩ := own_shape ho
      have HCD := Lib.hid (HCC.out.trans hc (by simp)); have HX := Lib.hid (show SeenV wD (.slice xo2 j xc2) (List.replicate j v) from SeenK.own V.cs_len ho (by simp))
      have HTD := Lib.hid (own_chg HTA.out hc (by simp))
      clear hc ho
      go_wp2_with fail
      refine (HBB.out 4 wD HCD.out).mono ?_
      rintro e wE ⟨yo, yc, sp, sc, rfl, hc, -, -⟩
      have HCE := Lib.hid (HCD.out.trans hc (by simp))
      have HXE := Lib.hid (show SeenV wE (.slice xo2 j xc2) (List.replicate j v) from HX.out.keep hc)
      have HLE := Lib.hid (show SeenV wE (.slice xo j xc) (List.replicate j v) from HL.out.keep HCE.out)
      have HTE := Lib.hid (show Seen wE (.slice tp j tc) (nv .i64 (List.replicate j 0)) from (reads_of_own (own_chg HTD.out hc (by simp))).seen)
      have hen := dencode_any _ (List.replicate j 0) 1 wE HTE.out (by decide) (by simp) (by simp; omega)
      rw [one_enc] at hen
      have HEN := Lib.hid (show Calls Try.prog 17 #[.slice tp j tc, .int .i64 1] wE fun e w' => ∃ eo ec, e = .returned (.slice eo 0 ec) ∧ Chg [] wE w' from hen.mono (by
        rintro e w' ⟨ev, rfl, hc, ho⟩
        obtain ⟨eo, ec, rfl⟩ := own_shape ho
        exact ⟨eo, ec, rfl, hc⟩))
      clear hen
      clear hc
      go_wp2_with (first
        | (go_at_call 17; (with_reducible refine HEN.out.mono ?_); rintro e wF ⟨eo, ec, rfl, hcf⟩; have HCF := Lib.hid hcf; clear hcf)
        | (go_at_call 15; (with_reducible refine (same11_any _ _ (List.replicate j v) wF (HXE.out.keep HCF.out) (HLE.out.keep HCF.out)).mono ?_); rintro e wG ⟨rfl, hcg⟩; have HCG := Lib.hid hcg; clear hcg)
        | fail)
      go_ret
      exact ⟨rfl, (((HK.out.trans HCE.out (by simp)).trans HCF.out (by simp)).trans HCG.out (by simp)).below (Nat.le_refl _) (by simp)⟩

end Go.Proofs.Ytegidbbigjhapaa
