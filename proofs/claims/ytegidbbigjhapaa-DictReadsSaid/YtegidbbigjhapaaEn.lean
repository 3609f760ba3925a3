/- The reference's dictionary: Decode of any bytes, any number, any words. -/
import Derived.Test.YtegidbbigjhapaaEm
import Derived.Test.YtegidbbigjhapaaEj
namespace Go.Proofs.Ytegidbbigjhapaa
open Go.RowKit
set_option linter.unusedVariables false
set_option linter.unusedSimpArgs false

theorem take_map_succ (W : List V) (A : List Nat) {j : Nat} (h : j < A.length) : (A.take (j + 1)).map (fun x => W.getD x (⟨0, e0⟩ : V)) = (A.take j).map (fun x => W.getD x ⟨0, e0⟩) ++ [W.getD (A.getD j 0) ⟨0, e0⟩] := by
  have e2 : A.take (j + 1) = A.take j ++ [A.getD j 0] := by
    rw [List.take_add_one, List.getElem?_eq_getElem h]
    simp [List.getD_eq_getElem?_getD, h]
  rw [e2, List.map_append]
  rfl

set_option maxRecDepth 100000 in
set_option maxHeartbeats 4000000 in
theorem rddecode13_any (bv : Value) (b : List Nat) (n : Int) (wv : Value) (W : List V) (w : World) (hS : Seen w bv (nv .u8 b)) (hb : ∀ x ∈ b, x < 2 ^ 8) (hbl : b.length ≤ 1000000000) (hW : SeenV w wv W) :
    Calls Try.prog 20 #[bv, .int .i64 n, wv] w (DcOut w b n W) := by
  obtain ⟨i0, hi, hz0, hz1, hz2⟩ := info_value
  obtain ⟨wo, wc, rfl, hc1, hc2⟩ := hW.shape
  obtain ⟨bo, bc, rfl, hd1, hd2⟩ := hS.shape
  have HS := Lib.hid hS; have HW := Lib.hid hW
  rw [nv_length] at hd1 HS ⊢
  obtain ⟨m, hm⟩ : ∃ m, m = W.length := ⟨_, rfl⟩
  rw [← hm] at hc1 HW ⊢
  have HM := Lib.hid hm
  have hmx : m ≤ 9223372036854775807 := by unfold maxLen at hc2; omega
  by_cases h256 : 256 < m
  · have E := Lib.hid (show ddecW b n W = ([], 4) by unfold ddecW; rw [if_pos (by rw [← hm]; exact h256)])
    have d1 : decide ((256 : Int) < (m : Int)) = true := by simp; omega
    clear hS hW hm
    go_enter Try.func20, Try.ntmps20
    go_wp2
    go_ret2
    exact DcOut.err E.out (Chg.refl _ _)
  have d1 : decide ((256 : Int) < (m : Int)) = false := by simp; omega
  have HWD := Lib.hid (fun wx => rwidth13_any m wx hmx)
  have HD := Lib.hid (rdecode10_any _ b n (widD m : Nat) w hS hb hbl)
  rw [nv_length] at HD
  have HDE := Lib.hid (show ddecW b n W = if (decA b n (widD m)).1 ≠ 0 then ([], ((decA b n (widD m)).1 : Int)) else if (decA b n (widD m)).2.all (· < m) = true then ((decA b n (widD m)).2.map fun x => W.getD x ⟨0, e0⟩, 0) else ([], 10) by unfold ddecW; rw [if_neg (by rw [← hm]; exact h256), ← hm])
  obtain ⟨f, hf⟩ : ∃ f, f = (decA b n (widD m)).1 := ⟨_, rfl⟩
  obtain ⟨A, hA⟩ : ∃ A, A = (decA b n (widD m)).2 := ⟨_, rfl⟩
  have HDD := Lib.hid (show Calls Try.prog 29 #[.slice bo b.length bc, .int .i64 n, .int .i64 ((widD m : Nat) : Int)] w fun e w' => ∃ ao ac, e = .returned (.tuple #[.slice ao A.length ac, .int .i64 (f : Int)]) ∧ Chg [] w w' ∧ w'.ownsRow w.heap.size 3 1 (.slice ao A.length ac) A.length (nv .i64 A) from HD.out.mono (by
    rintro e w' ⟨v, rfl, hc, ho⟩
    rw [← hA] at ho
    obtain ⟨ao, ac, rfl⟩ := own_shape ho
    exact ⟨ao, ac, by rw [← hf], hc, ho⟩))
  rw [← hf, ← hA] at HDE
  obtain ⟨a, ha⟩ : ∃ a, a = A.length := ⟨_, rfl⟩
  rw [← ha] at HDD
  have HAL := Lib.hid ha
  have HA4 := Lib.hid (show f = 0 → a ≤ 4000 from fun h => by have := decA_len b n (widD m) (by rw [← hf]; exact h); rw [← hA, ← ha] at this; omega)
  clear hS hW hm HD hf hA ha h256
  by_cases hf0 : f = 0
  · subst hf0
    have hb0 : (((0 : Nat) : Int) != 0) = false := rfl
    rw [if_neg (by simp)] at HDE
    have hbig : a ≤ 4000 := HA4.out rfl
    go_enter Try.func20, Try.ntmps20
    go_wp2_with (first
      | (go_at_call 28; (with_reducible refine (HWD.out _).mono ?_); rintro e w2 ⟨rfl, rfl⟩)
      | (go_at_call 29; (with_reducible refine HDD.out.mono ?_); rintro e w1 ⟨ao, ac, rfl, hc, ho⟩; have HC1 := Lib.hid hc; have HA := Lib.hid ho; clear hc ho)
      | fail)
    go_loopw [10, 11] (fun lv i w' => ∃ j : Nat, j ≤ a ∧ i = .int .i64 (j : Int) ∧ (∀ x ∈ A.take j, x < m) ∧ Chg [] w1 w' ∧ w'.ownsRow w1.heap.size 28 2 lv j (((A.take j).map fun x => W.getD x ⟨0, e0⟩).flatMap V.cs)) (fun _ i _ => a - (intOf i).toNat)
    case atStart => exact ⟨0, Nat.zero_le _, rfl, by simp, Chg.refl _ _, by simpa using World.ownsRow_nil _ _ _ _⟩
    case round =>
      obtain ⟨j, hj, rfl, hall, hc, ho⟩ := hrel
      obtain ⟨xo, xc, rfl⟩ := own_shape ho
      have HC := Lib.hid hc; have HO := Lib.hid ho; have HALL := Lib.hid hall
      have hB := hc.size
      clear hc ho hall
      by_cases hlt : j < a
      · have d2 : decide ((j : Int) < (a : Int)) = true := by simp; omega
        have HA1 := Lib.hid (own_chg HA.out HC.out (by simp))
        obtain ⟨ga, rfl⟩ := own_some HA1.out (by omega)
        have x0 := own_cell HA1.out HAL.out.symm j hlt
        obtain ⟨s, hs⟩ : ∃ s, s = A.getD j 0 := ⟨_, rfl⟩
        rw [← hs] at x0
        by_cases hsm : s < m
        · have d3 : decide ((m : Int) ≤ (s : Int)) = false := by simp; omega
          have hms : ¬ m ≤ s := by omega
          obtain ⟨v, hv⟩ : ∃ v, W[s]? = some v := ⟨_, List.getElem?_eq_getElem (by rw [← HM.out]; exact hsm)⟩
          have hWx := (HW.out.keep HC1.out).keep HC.out
          obtain ⟨gw, ow, rfl, hcell⟩ := SeenV.get hWx (by omega)
          obtain ⟨k0, k1⟩ := hcell s v hv
          have HFS := Lib.hid (show (A.take (j + 1)).map (fun x => W.getD x (⟨0, e0⟩ : V)) = (A.take j).map (fun x => W.getD x ⟨0, e0⟩) ++ [v] by
            rw [take_map_succ W A (by rw [← HAL.out]; exact hlt), ← hs, List.getD_eq_getElem?_getD, hv]
            rfl)
          have HAJ := Lib.hid (show ∀ x ∈ A.take (j + 1), x < m from fun x hx => by
            rw [List.take_add_one, List.getElem?_eq_getElem (by rw [← HAL.out]; exact hlt)] at hx
            rcases List.mem_append.1 hx with hx | hx
            · exact HALL.out x hx
            · simp at hx
              rw [hx]
              rw [hs, List.getD_eq_getElem?_getD, List.getElem?_eq_getElem (by rw [← HAL.out]; exact hlt)] at hsm
              exact hsm)
          clear hcell hs hv hWx
          go_wp2_with (first
            | (at_builtin; refine wpList_append_own _ rfl _ _ 22 rfl w1.heap.size 28 i0 (.agg #[.int .i64 0, .string ByteArray.empty]) 2 24 Try.underlying22 hi hz0 hz1 hz2 rfl (by decide) _ _ _ rfl (HO.out.alloc _) ⟨wr.heap.size, 0, none⟩ 1 1 (V.cs v) rfl rfl (new_cells (C := #[.int .i64 v.n, .string v.s]) _ rfl) (V.one _) (by unfold maxLen; omega) (by omega) (by simp; omega) ?_)
            | fail)
          intro v' w3 hown' hgrow _
          have HG3 := Lib.hid ((HC.out.alloc (vo v)).grown hgrow (fun g hg => .inr (HO.out.lt g hg).1))
          have HO3 := Lib.hid (show w3.ownsRow w1.heap.size 28 2 v' (j + 1) (((A.take (j + 1)).map fun x => W.getD x ⟨0, e0⟩).flatMap V.cs) by rw [HFS.out, List.flatMap_append]; simpa using hown')
          clear hgrow hown'
          go_wp2
          go_roundw
          case rel => exact ⟨j + 1, hlt, by go_num, HAJ.out, HG3.out, HO3.out⟩
          case measure => simp [intOf]; omega
        · have d3 : decide ((m : Int) ≤ (s : Int)) = true := by simp; omega
          have E := Lib.hid (show ddecW b n W = ([], 10) by
            rw [HDE.out, if_neg]
            intro h
            rw [List.all_eq_true] at h
            have := h s (by rw [hs]; exact getD_mem (by rw [← HAL.out]; exact hlt))
            simp at this
            omega)
          have hms : m ≤ s := by omega
          clear hs hsm
          go_wp2
          go_ret2
          exact DcOut.err E.out (HC1.out.trans HC.out (by simp))
      · have d2 : decide ((j : Int) < (a : Int)) = false := by simp; omega
        obtain rfl : j = a := by omega
        have HTA := Lib.hid (show A.take j = A by rw [HAL.out, List.take_length])
        have E := Lib.hid (show ddecW b n W = (A.map fun x => W.getD x ⟨0, e0⟩, 0) by
          rw [HDE.out, if_pos]
          rw [List.all_eq_true]
          intro x hx
          have := HALL.out x (by rw [HTA.out]; exact hx)
          simpa using this)
        have HB1 := Lib.hid HC1.out.size
        go_wp2
        go_ret2
        unfold DcOut
        rw [E.out]
        refine ⟨_, rfl, HC1.out.trans HC.out (by simp), ?_⟩
        have h := own_mono HO.out HB1.out
        rw [HTA.out] at h
        rw [show (A.map fun x => W.getD x (⟨0, e0⟩ : V)).length = j by rw [List.length_map, ← HAL.out]]
        exact h
  · have hb0 : ((f : Int) != 0) = true := by simpa using hf0
    rw [if_pos hf0] at HDE
    go_enter Try.func20, Try.ntmps20
    go_wp2_with (first
      | (go_at_call 28; (with_reducible refine (HWD.out _).mono ?_); rintro e w2 ⟨rfl, rfl⟩)
      | (go_at_call 29; (with_reducible refine HDD.out.mono ?_); rintro e w1 ⟨ao, ac, rfl, hc, ho⟩; have HC1 := Lib.hid hc; clear hc ho)
      | fail)
    go_ret2
    exact DcOut.err HDE.out HC1.out

end Go.Proofs.Ytegidbbigjhapaa
