/- dict: Decode for any bytes, any number, any words. -/
import Derived.Test.YtegidbbigjhapaaEg
namespace Go.Proofs.Ytegidbbigjhapaa
open Go.RowKit
set_option linter.unusedVariables false
set_option linter.unusedSimpArgs false

theorem decA_len (b : List Nat) (n w : Int) (h : (decA b n w).1 = 0) : (decA b n w).2.length = n.toNat ∧ n.toNat ≤ 4000 := by
  unfold decA at h ⊢
  split at h
  · simp at h
  · rename_i h1
    rw [if_neg h1]
    split at h
    · rename_i h2
      rw [if_pos h2]
      split at h
      · rename_i h3
        rw [if_pos h3]
        simp; omega
      · simp at h
    · rename_i h2
      rw [if_neg h2]
      split at h
      · rename_i h3
        rw [if_pos h3]
        exact ⟨decL_len _ _ _ h3, by omega⟩
      · rename_i h3
        exact absurd h h3

def DcOut (w : World) (b : List Nat) (n : Int) (W : List V) (e : Ending) (w' : World) : Prop :=
  ∃ x, e = .returned (.tuple #[x, .int .i64 (ddecW b n W).2]) ∧ Chg [] w w' ∧ w'.ownsRow w.heap.size 28 2 x (ddecW b n W).1.length ((ddecW b n W).1.flatMap V.cs)

theorem DcOut.err {w w' : World} {b : List Nat} {n : Int} {W : List V} {r : Int} (h : ddecW b n W = ([], r)) (hc : Chg [] w w') : DcOut w b n W (.returned (.tuple #[.slice none 0 0, .int .i64 r])) w' := by
  unfold DcOut
  rw [h]
  exact ⟨_, rfl, hc, World.ownsRow_nil _ _ _ _⟩

theorem cells_values (n : Nat) : (madeCells #[.int .i64 0, .string ByteArray.empty] (n * 2)).toList = (List.replicate n (⟨0, e0⟩ : V)).flatMap V.cs := by
  apply List.ext_getElem?
  intro j
  by_cases hj : j < n * 2
  · have key : ∀ u, (V.cs ⟨0, e0⟩)[j % 2]? = some u → ((List.replicate n (⟨0, e0⟩ : V)).flatMap V.cs)[j]? = some u := fun u hu => by
      have h := flat_get V.cs_len (List.replicate n (⟨0, e0⟩ : V)) (j / 2) ⟨0, e0⟩ (j % 2) u (by rw [List.getElem?_replicate, if_pos (by omega)]) hu
      rwa [show j / 2 * 2 + j % 2 = j by omega] at h
    have h3 : j % 2 = 0 ∨ j % 2 = 1 := by omega
    rcases h3 with h3 | h3
    all_goals
      rw [h3] at key
      rw [key _ rfl]
      simp [madeCells, hj, h3]
    rfl
  · rw [List.getElem?_eq_none (by simp [madeCells]; omega), List.getElem?_eq_none (by rw [flat_length V.cs_len]; simp; omega)]

set_option maxRecDepth 100000 in
set_option maxHeartbeats 4000000 in
theorem ddecode13_any (bv : Value) (b : List Nat) (n : Int) (wv : Value) (W : List V) (w : World) (hS : Seen w bv (nv .u8 b)) (hb : ∀ x ∈ b, x < 2 ^ 8) (hW : SeenV w wv W) :
    Calls Try.prog 18 #[bv, .int .i64 n, wv] w (DcOut w b n W) := by
  obtain ⟨i0, hi, hz0, hz1, hz2⟩ := info_value
  obtain ⟨wo, wc, rfl, hc1, hc2⟩ := hW.shape
  obtain ⟨bo, bc, rfl, hd1, hd2⟩ := hS.shape
  have HS := Lib.hid hS; have HW := Lib.hid hW
  rw [nv_length] at hd1 HS ⊢
  obtain ⟨m, hm⟩ : ∃ m, m = W.length := ⟨_, rfl⟩
  rw [← hm] at hc1 HW ⊢
  have HM := Lib.hid hm
  have hmx : m ≤ 9223372036854775807 := by unfold maxLen at hc2; omega
  by_cases h256 : 256 < m
  · have E := Lib.hid (show ddecW b n W = ([], 4) by unfold ddecW; rw [if_pos (by rw [← hm]; exact h256)])
    have d1 : decide ((256 : Int) < (m : Int)) = true := by simp; omega
    clear hS hW hm
    go_enter Try.func18, Try.ntmps18
    go_wp2
    go_ret2
    exact DcOut.err E.out (Chg.refl _ _)
  have d1 : decide ((256 : Int) < (m : Int)) = false := by simp; omega
  have HWD := Lib.hid (fun wx => dwidth_any m wx hmx)
  have HD := Lib.hid (decode_any _ b n (widD m : Nat) w hS hb)
  rw [nv_length] at HD
  have HDE := Lib.hid (show ddecW b n W = if (decA b n (widD m)).1 ≠ 0 then ([], ((decA b n (widD m)).1 : Int)) else if (decA b n (widD m)).2.all (· < m) = true then ((decA b n (widD m)).2.map fun x => W.getD x ⟨0, e0⟩, 0) else ([], 10) by unfold ddecW; rw [if_neg (by rw [← hm]; exact h256), ← hm])
  obtain ⟨f, hf⟩ : ∃ f, f = (decA b n (widD m)).1 := ⟨_, rfl⟩
  obtain ⟨A, hA⟩ : ∃ A, A = (decA b n (widD m)).2 := ⟨_, rfl⟩
  have HDD := Lib.hid (show Calls Try.prog 26 #[.slice bo b.length bc, .int .i64 n, .int .i64 ((widD m : Nat) : Int)] w fun e w' => ∃ ao ac, e = .returned (.tuple #[.slice ao A.length ac, .int .i64 (f : Int)]) ∧ Chg [] w w' ∧ w'.ownsRow w.heap.size 3 1 (.slice ao A.length ac) A.length (nv .i64 A) from HD.out.mono (by
    rintro e w' ⟨v, rfl, hc, ho⟩
    rw [← hA] at ho
    obtain ⟨ao, ac, rfl⟩ := own_shape ho
    exact ⟨ao, ac, by rw [← hf], hc, ho⟩))
  rw [← hf, ← hA] at HDE
  obtain ⟨a, ha⟩ : ∃ a, a = A.length := ⟨_, rfl⟩
  rw [← ha] at HDD
  have HAL := Lib.hid ha
  have HA4 := Lib.hid (show f = 0 → a ≤ 4000 from fun h => by have := decA_len b n (widD m) (by rw [← hf]; exact h); rw [← hA, ← ha] at this; omega)
  clear hS hW hm HD hf hA ha h256
  by_cases hf0 : f = 0
  · subst hf0
    have hb0 : (((0 : Nat) : Int) != 0) = false := rfl
    rw [if_neg (by simp)] at HDE
    have hbig : a ≤ 4000 := HA4.out rfl
    go_enter Try.func18, Try.ntmps18
    go_wp2_with (first
      | (go_at_call 25; (with_reducible refine (HWD.out _).mono ?_); rintro e w2 ⟨rfl, rfl⟩)
      | (go_at_call 26; (with_reducible refine HDD.out.mono ?_); rintro e w1 ⟨ao, ac, rfl, hc, ho⟩; have HC1 := Lib.hid hc; have HA := Lib.hid ho; clear hc ho)
      | (at_make; refine wpList_make_full _ rfl _ _ 22 rfl w1.heap.size 28 i0 (.agg #[.int .i64 0, .string ByteArray.empty]) 2 Try.underlying22 hi hz0 hz1 .i64 .i64 _ _ a rfl rfl rfl rfl ?c1 ?c2 (Nat.le_refl _) ?_)
      | fail)
    case c1 => rw [hz2]; omega
    case c2 => unfold maxLen; omega
    intro w2 hown hg
    rw [show (madeCells #[Value.int .i64 0, .string ByteArray.empty] (a * 2)).toList = (fillW W A 0).flatMap V.cs by rw [cells_values]; unfold fillW; rw [HAL.out]; simp] at hown
    have HC2 := Lib.hid ((Chg.refl [] w1).grown hg (by simp))
    have HO2 := Lib.hid hown
    obtain ⟨gl, hgl⟩ : ∃ g, g = w1.heap.size := ⟨_, rfl⟩
    have HGL := Lib.hid hgl
    have hgw : w.heap.size ≤ gl := by rw [hgl]; exact HC1.out.size
    rw [← hgl] at HO2 ⊢
    clear hown hg hgl
    go_wp2
    go_loopw [33] (fun i w' => ∃ j : Nat, j ≤ a ∧ i = .int .i64 (j : Int) ∧ (∀ x ∈ A.take j, x < m) ∧ Chg [] w1 w' ∧ w'.ownsRow gl 28 2 (.slice (some ⟨gl, 0, none⟩) a a) a ((fillW W A j).flatMap V.cs)) (fun i _ => a - (intOf i).toNat)
    case atStart => exact ⟨0, Nat.zero_le _, rfl, by simp, HC2.out, HO2.out⟩
    case round =>
      obtain ⟨j, hj, rfl, hall, hc, ho⟩ := hrel
      have HC := Lib.hid hc; have HO := Lib.hid ho; have HALL := Lib.hid hall
      clear hc ho hall
      by_cases hlt : j < a
      · have d2 : decide ((j : Int) < (a : Int)) = true := by simp; omega
        have HA1 := Lib.hid (own_chg HA.out HC.out (by simp))
        obtain ⟨ga, rfl⟩ := own_some HA1.out (by omega)
        have x0 := own_cell HA1.out HAL.out.symm j hlt
        obtain ⟨s, hs⟩ : ∃ s, s = A.getD j 0 := ⟨_, rfl⟩
        rw [← hs] at x0
        have HSE := Lib.hid hs
        by_cases hsm : s < m
        · have d3 : decide ((m : Int) ≤ (s : Int)) = false := by simp; omega
          obtain ⟨v, hv⟩ : ∃ v, W[s]? = some v := ⟨_, List.getElem?_eq_getElem (by rw [← HM.out]; exact hsm)⟩
          have hWx := (HW.out.keep HC1.out).keep HC.out
          obtain ⟨gw, ow, rfl, hcell⟩ := SeenV.get hWx (by omega)
          obtain ⟨k0, k1⟩ := hcell s v hv
          obtain ⟨g', hg', hge, hlt', hfz, hcl⟩ := own_ptr HO.out (by omega)
          injection hg' with hg'
          injection hg' with hg'
          subst hg'
          have f0 := hfz (j * 2)
          have f1 := hfz (j * 2 + 1)
          have hat := fillW_at W A (j := j) (by rw [← HAL.out]; exact hlt)
          have y0 := hcl (j * 2) (.int .i64 0) (by have := flat_get V.cs_len (fillW W A j) j _ 0 _ hat rfl; simpa using this)
          have y1 := hcl (j * 2 + 1) (.string e0) (by have := flat_get V.cs_len (fillW W A j) j _ 1 _ hat rfl; simpa using this)
          have HFS := Lib.hid (show (fillW W A j).set j v = fillW W A (j + 1) by
            have := fillW_set W A (j := j) (by rw [← HAL.out]; exact hlt)
            rw [← hs, List.getD_eq_getElem?_getD, hv] at this
            exact this)
          have HAJ := Lib.hid (show ∀ x ∈ A.take (j + 1), x < m from fun x hx => by
            rw [List.take_add_one, List.getElem?_eq_getElem (by rw [← HAL.out]; exact hlt)] at hx
            rcases List.mem_append.1 hx with hx | hx
            · exact HALL.out x hx
            · simp at hx
              rw [hx]
              rw [hs, List.getD_eq_getElem?_getD, List.getElem?_eq_getElem (by rw [← HAL.out]; exact hlt)] at hsm
              exact hsm)
          clear hcell hs hfz hcl hv hat hWx
          go_wp2
          go_roundw
          case rel => exact ⟨j + 1, hlt, by go_num, HAJ.out, (HC.out.setCell (.inr (by rw [← HGL.out]; exact Nat.le_refl _)) _).setCell (.inr (by rw [← HGL.out]; exact Nat.le_refl _)) _, by
            have h := own_set (own_set HO.out (j * 2) (by omega) (.int .i64 v.n)) (j * 2 + 1) (by omega) (.string v.s)
            rw [flat_set2, HFS.out] at h
            exact h⟩
          case measure => simp [intOf]; omega
        · have d3 : decide ((m : Int) ≤ (s : Int)) = true := by simp; omega
          have E := Lib.hid (show ddecW b n W = ([], 10) by
            rw [HDE.out, if_neg]
            intro h
            rw [List.all_eq_true] at h
            have := h s (by rw [hs]; exact getD_mem (by rw [← HAL.out]; exact hlt))
            simp at this
            omega)
          have hms : m ≤ s := by omega
          clear hs hsm
          go_wp2
          go_ret2
          exact DcOut.err E.out (HC1.out.trans HC.out (by simp))
      · have d2 : decide ((j : Int) < (a : Int)) = false := by simp; omega
        obtain rfl : j = a := by omega
        have E := Lib.hid (show ddecW b n W = (A.map fun x => W.getD x ⟨0, e0⟩, 0) by
          rw [HDE.out, if_pos]
          rw [List.all_eq_true]
          intro x hx
          have := HALL.out x (by rw [HAL.out, List.take_length]; exact hx)
          simpa using this)
        go_wp2
        go_ret2
        unfold DcOut
        rw [E.out]
        refine ⟨_, rfl, HC1.out.trans HC.out (by simp), ?_⟩
        have h := own_mono HO.out hgw
        rw [show fillW W A j = A.map (fun x => W.getD x ⟨0, e0⟩) by rw [HAL.out]; exact fillW_all W A] at h
        rw [show (A.map fun x => W.getD x (⟨0, e0⟩ : V)).length = j by rw [List.length_map, ← HAL.out]]
        exact h
  · have hb0 : ((f : Int) != 0) = true := by simpa using hf0
    rw [if_pos hf0] at HDE
    go_enter Try.func18, Try.ntmps18
    go_wp2_with (first
      | (go_at_call 25; (with_reducible refine (HWD.out _).mono ?_); rintro e w2 ⟨rfl, rfl⟩)
      | (go_at_call 26; (with_reducible refine HDD.out.mono ?_); rintro e w1 ⟨ao, ac, rfl, hc, ho⟩; have HC1 := Lib.hid hc; clear hc ho)
      | fail)
    go_ret2
    exact DcOut.err HDE.out HC1.out

end Go.Proofs.Ytegidbbigjhapaa
