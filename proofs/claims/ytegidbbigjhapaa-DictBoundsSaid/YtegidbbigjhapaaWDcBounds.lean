/- The walk of the statement DictBounds. -/
import Derived.Test.YtegidbbigjhapaaEh
import Derived.Deep.RegionLaw
namespace Go.Proofs.Ytegidbbigjhapaa
open Go.RowKit
set_option linter.unusedVariables false
set_option linter.unusedSimpArgs false

/-- So many unlike numbers. -/
def triV (n : Nat) : List V := (List.range n).map fun i => ⟨((i * 3 : Nat) : Int), e0⟩
theorem triV_len (n : Nat) : (triV n).length = n := by simp [triV]
theorem triV_succ (n : Nat) : triV (n + 1) = triV n ++ [⟨((n * 3 : Nat) : Int), e0⟩] := by unfold triV; rw [List.range_succ, List.map_append]; rfl
theorem triV_mem {n k : Nat} (h : n ≤ k) : (⟨((k * 3 : Nat) : Int), e0⟩ : V) ∉ triV n := by
  intro hm
  obtain ⟨i, hi, he⟩ := List.mem_map.1 hm
  have h1 : (((i * 3 : Nat) : Int)) = ((k * 3 : Nat) : Int) := congrArg V.n he
  have := List.mem_range.1 hi
  omega
theorem wds_tri : ∀ n, wdsL (triV n) = triV n
  | 0 => rfl
  | n + 1 => by rw [triV_succ, wdsL_snoc, wds_tri n]; exact addW_new (triV_mem (Nat.le_refl _))
theorem tri_bld (n : Nat) : bldL (triV n) 256 = if n ≤ 256 then (triV n, atsL (triV n), true) else ([], [], false) := by
  split
  · rw [bldL_in (by decide) (by rw [wds_tri, triV_len]; omega), wds_tri]
  · unfold bldL
    rw [if_neg]
    rw [wds_tri, triV_len]
    omega

set_option maxRecDepth 100000 in
set_option maxHeartbeats 4000000 in
theorem walk_DictBounds (a0 a1 : Int) (w : World) (w0 : (Lit.int .i64 a0).wf = true) (w1 : (Lit.int .i64 a1).wf = true) :
    Calls Try.prog 7 #[.int .i64 a0, .int .i64 a1] w fun e w' => e = .returned (.bool true) ∧ Below w.heap.size w w' := by
  obtain ⟨i0, hi, hz0, hz1, hz2⟩ := info_value
  have HQ := Lib.hid (fun wx => within13 a0 6 6 wx rfl (by decide) (by decide) w0)
  obtain ⟨K, hK⟩ : ∃ K, K = (a0 % ((6 : Nat) : Int)).toNat := ⟨_, rfl⟩
  have hK4 : K < 6 := by rw [hK]; exact within_lt a0 6 (by decide)
  rw [← hK] at HQ
  have HQ2 := Lib.hid (fun wx => within13 a1 99 99 wx rfl (by decide) (by decide) w1)
  obtain ⟨P, hP⟩ : ∃ P, P = (a1 % ((99 : Nat) : Int)).toNat := ⟨_, rfl⟩
  have hP4 : P < 99 := by rw [hP]; exact within_lt a1 99 (by decide)
  rw [← hP] at HQ2
  clear w0 w1 hK hP
  obtain ⟨n, hn⟩ : ∃ n, n = 253 + K := ⟨_, rfl⟩
  have hn0 : 253 ≤ n ∧ n ≤ 258 := by omega
  obtain ⟨M1, hM1⟩ : ∃ M1 : Int, M1 = 257 + (P : Int) := ⟨_, rfl⟩
  obtain ⟨M2, hM2⟩ : ∃ M2 : Int, M2 = -1 - (P : Int) := ⟨_, rfl⟩
  have hKn : (253 : Int) + (K : Int) = (n : Int) := by omega
  clear hn
  go_enter Try.func7, Try.ntmps7
  go_wp2_with fail
  refine (known13_any _).mono ?_
  rintro e wA ⟨rfl, hk⟩
  have HKA := Lib.hid hk
  clear hk
  go_wp2_with fail
  refine (HQ.out _).mono ?_
  rintro e wB ⟨rfl, rfl⟩
  go_wp2_with fail
  go_loopw [5, 6] (fun x i w' => ∃ j : Nat, j ≤ n ∧ i = .int .i64 (j : Int) ∧ Chg [] wA w' ∧ w'.ownsRow wA.heap.size 28 2 x j ((triV j).flatMap V.cs)) (fun _ i _ => n - (intOf i).toNat)
  case atStart => exact ⟨0, Nat.zero_le _, rfl, Chg.refl _ _, by simpa [triV] using World.ownsRow_nil _ _ _ _⟩
  case round =>
    obtain ⟨j, hj, rfl, hc, ho⟩ := hrel
    obtain ⟨xo, xc, rfl⟩ := own_shape ho
    have HC := Lib.hid hc; have HO := Lib.hid ho
    have hB := hc.size
    clear hc ho
    by_cases hlt : j < n
    · have d1 : decide ((j : Int) < (n : Int)) = true := by simp; omega
      have hwr : IntKind.i64.wrap ((j : Int) * 3) = ((j * 3 : Nat) : Int) := by rw [IntWalk.i64_in _ (by omega)]; omega
      go_wp2_with (first
        | (at_builtin; refine wpList_append_own _ rfl _ _ 22 rfl wA.heap.size 28 i0 (.agg #[.int .i64 0, .string ByteArray.empty]) 2 24 Try.underlying22 hi hz0 hz1 hz2 rfl (by decide) _ _ _ rfl (HO.out.alloc _) ⟨wr.heap.size, 0, none⟩ 1 1 (V.cs ⟨((j * 3 : Nat) : Int), e0⟩) rfl rfl ?c1 ?c2 ?c3 ?c4 ?c5 ?_)
        | fail)
      case c1 => exact new_cells (C := #[.int .i64 ((j * 3 : Nat) : Int), .string e0]) _ rfl
      case c2 => exact V.one _
      case c3 => unfold maxLen; omega
      case c4 => omega
      case c5 => simp; omega
      intro v' w3 hown' hgrow _
      have HG3 := Lib.hid ((HC.out.alloc (.cells #[.int .i64 ((j * 3 : Nat) : Int), .string e0] 28)).grown hgrow (fun g hg => .inr (HO.out.lt g hg).1))
      have HO3 := Lib.hid (show w3.ownsRow wA.heap.size 28 2 v' (j + 1) ((triV (j + 1)).flatMap V.cs) by rw [triV_succ, List.flatMap_append]; simpa using hown')
      clear hgrow hown'
      go_wp2
      go_roundw
      case rel => exact ⟨j + 1, hlt, by go_num, HG3.out, HO3.out⟩
      case measure => simp [intOf]; omega
    · have d1 : decide ((j : Int) < (n : Int)) = false := by simp; omega
      obtain rfl : j = n := by omega
      have HL := Lib.hid (show SeenV wr (.slice xo j xc) (triV j) from SeenK.own V.cs_len HO.out (triV_len j))
      have HK := Lib.hid (show Chg [] w wr from HKA.out.trans HC.out (by simp))
      obtain ⟨T, Tn, b, hb⟩ : ∃ T Tn b, bldL (triV j) 256 = (T, Tn, b) := ⟨_, _, _, rfl⟩
      have HBB := Lib.hid (bld13 3 _ (triV j) T Tn b 256 wr HL.out (by rw [triV_len]; omega) rfl hb)
      rw [tri_bld] at hb
      have hbT : b = decide (j ≤ 256) ∧ (j ≤ 256 → T.length = j) := by
        split at hb
        · rename_i h
          injection hb with h1 h2
          injection h2 with h2 h3
          rw [← h3, ← h1]
          simp [h, triV_len]
        · rename_i h
          injection hb with h1 h2
          injection h2 with h2 h3
          rw [← h3]
          simp [h]
      have hcx : j ≤ xc := (own_room HO.out).1
      obtain ⟨fo, fc, hsf, hfr⟩ := run_front_v HL.out hcx 1 (by omega)
      have HSF := Lib.hid hsf
      rw [show ((1 : Nat) : Int) = 1 from rfl] at hfr
      have HOV := Lib.hid (fun (kd m : Int) (hm : (Lit.int .i64 m).wf = true) (h : m < 0 ∨ 256 < m) (wx : World) (hs : Chg [] wr wx) => bld13 kd _ ((triV j).take 1) [] [] false m wx (HSF.out.keep hs) (by simp; omega) hm (bldL_out h))
      clear hb hsf
      by_cases h256 : j ≤ 256
      · obtain ⟨rfl, hT⟩ : b = true ∧ T.length = j := ⟨by rw [hbT.1]; simpa using h256, hbT.2 h256⟩
        rw [hT] at HBB
        have d3 : decide ((j : Int) ≤ 256) = true := by simp; omega
        have d4 : ((j : Int) == (j : Int)) = true := by simp
        clear hbT hT
        go_wp2_with fail
        refine HBB.out.mono ?_
        rintro e wC ⟨wo, wc, tp, tc, rfl, hc, -, -⟩
        have HCC := Lib.hid hc
        clear hc
        have hw1 : IntKind.i64.wrap (257 + (P : Int)) = M1 := by rw [hM1]; exact IntWalk.i64_in _ (by omega)
        have hw2 : IntKind.i64.wrap (-1 - (P : Int)) = M2 := by rw [hM2]; exact IntWalk.i64_in _ (by omega)
        have HM1 := Lib.hid (show (Lit.int .i64 M1).wf = true ∧ (M1 < 0 ∨ 256 < M1) from ⟨wf64_of _ (by omega), by omega⟩)
        have HM2 := Lib.hid (show (Lit.int .i64 M2).wf = true ∧ (M2 < 0 ∨ 256 < M2) from ⟨wf64_of _ (by omega), by omega⟩)
        clear hM1 hM2
        go_upto_region 10 with fail
        go_region_law (first
          | (go_simp; go_at_call 11; (with_reducible refine (HQ2.out _).mono ?_); rintro e w2 ⟨rfl, rfl⟩)
          | (go_simp; go_at_call 13; (with_reducible refine (HOV.out 3 _ HM1.out.1 HM1.out.2 _ (by first | exact HCC.out | exact HCC.out.drew | exact HCC.out.drewN _)).mono ?_); rintro e wD ⟨yo1, yc1, yo2, yc2, rfl, hcd, -, -⟩; have HCD := Lib.hid (show Chg [] wr wD from (show Chg [] wr _ by first | exact HCC.out | exact HCC.out.drew | exact HCC.out.drewN _).trans hcd (by simp)); clear hcd))
        all_goals
          go_upto_region 11 with fail
          go_region_law (first
            | (go_simp; go_at_call 11; (with_reducible refine (HQ2.out _).mono ?_); rintro e w2 ⟨rfl, rfl⟩)
            | (go_simp; go_at_call 13; (with_reducible refine (HOV.out 3 _ HM2.out.1 HM2.out.2 _ (by first | exact HCD.out | exact HCD.out.drew | exact HCD.out.drewN _)).mono ?_); rintro e wE ⟨zo1, zc1, zo2, zc2, rfl, hcd, -, -⟩; have HCE := Lib.hid (show Chg [] wr wE from (show Chg [] wr _ by first | exact HCD.out | exact HCD.out.drew | exact HCD.out.drewN _).trans hcd (by simp)); clear hcd))
          all_goals
            go_wp2
            go_ret
            exact ⟨rfl, (HK.out.trans HCE.out (by simp)).below (Nat.le_refl _) (by simp)⟩
      · obtain rfl : b = false := by rw [hbT.1]; simpa using h256
        have d3 : decide ((j : Int) ≤ 256) = false := by simp; omega
        clear hbT
        go_wp2_with fail
        refine HBB.out.mono ?_
        rintro e wC ⟨wo, wc, tp, tc, rfl, hc, -, -⟩
        have HCC := Lib.hid hc
        clear hc
        have hw1 : IntKind.i64.wrap (257 + (P : Int)) = M1 := by rw [hM1]; exact IntWalk.i64_in _ (by omega)
        have hw2 : IntKind.i64.wrap (-1 - (P : Int)) = M2 := by rw [hM2]; exact IntWalk.i64_in _ (by omega)
        have HM1 := Lib.hid (show (Lit.int .i64 M1).wf = true ∧ (M1 < 0 ∨ 256 < M1) from ⟨wf64_of _ (by omega), by omega⟩)
        have HM2 := Lib.hid (show (Lit.int .i64 M2).wf = true ∧ (M2 < 0 ∨ 256 < M2) from ⟨wf64_of _ (by omega), by omega⟩)
        clear hM1 hM2
        go_upto_region 10 with fail
        go_region_law (first
          | (go_simp; go_at_call 11; (with_reducible refine (HQ2.out _).mono ?_); rintro e w2 ⟨rfl, rfl⟩)
          | (go_simp; go_at_call 13; (with_reducible refine (HOV.out 3 _ HM1.out.1 HM1.out.2 _ (by first | exact HCC.out | exact HCC.out.drew | exact HCC.out.drewN _)).mono ?_); rintro e wD ⟨yo1, yc1, yo2, yc2, rfl, hcd, -, -⟩; have HCD := Lib.hid (show Chg [] wr wD from (show Chg [] wr _ by first | exact HCC.out | exact HCC.out.drew | exact HCC.out.drewN _).trans hcd (by simp)); clear hcd))
        all_goals
          go_upto_region 11 with fail
          go_region_law (first
            | (go_simp; go_at_call 11; (with_reducible refine (HQ2.out _).mono ?_); rintro e w2 ⟨rfl, rfl⟩)
            | (go_simp; go_at_call 13; (with_reducible refine (HOV.out 3 _ HM2.out.1 HM2.out.2 _ (by first | exact HCD.out | exact HCD.out.drew | exact HCD.out.drewN _)).mono ?_); rintro e wE ⟨zo1, zc1, zo2, zc2, rfl, hcd, -, -⟩; have HCE := Lib.hid (show Chg [] wr wE from (show Chg [] wr _ by first | exact HCD.out | exact HCD.out.drew | exact HCD.out.drewN _).trans hcd (by simp)); clear hcd))
          all_goals
            go_wp2
            go_ret
            exact ⟨rfl, (HK.out.trans HCE.out (by simp)).below (Nat.le_refl _) (by simp)⟩

end Go.Proofs.Ytegidbbigjhapaa
