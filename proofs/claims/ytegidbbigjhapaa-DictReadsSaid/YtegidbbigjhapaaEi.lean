/- The reference's dictionary: find, Build. -/
import Derived.Test.YtegidbbigjhapaaEd
import Derived.BigQuiet
namespace Go.Proofs.Ytegidbbigjhapaa
open Go.RowKit
set_option linter.unusedVariables false
set_option linter.unusedSimpArgs false

theorem plcV_first {W : List V} {v : V} {j : Nat} (h : W[j]? = some v) (hn : ∀ i, i < j → W[i]? ≠ some v) : plcV W v = j := by
  have hm : v ∈ W := List.mem_of_getElem? h
  have hl := plcV_lt hm
  have hg := plcV_get hm
  rcases Nat.lt_trichotomy (plcV W v) j with h1 | h1 | h1
  · exact absurd hg (hn _ h1)
  · exact h1
  · exfalso
    have := List.not_of_lt_findIdx (p := (· == v)) h1
    obtain ⟨hb, he⟩ := List.getElem?_eq_some_iff.1 h
    rw [he] at this
    simp at this

set_option maxRecDepth 100000 in
set_option maxHeartbeats 2000000 in
theorem rfind_any (wv : Value) (W : List V) (v : V) (w : World) (hS : SeenV w wv W) :
    Calls Try.prog 23 #[wv, vvV v] w fun e w' => e = .returned (.int .i64 (if v ∈ W then ((plcV W v : Nat) : Int) else -1)) ∧ Chg [] w w' := by
  obtain ⟨ao, cap, rfl, hc1, hc2⟩ := hS.shape
  obtain ⟨m, hm⟩ : ∃ m, m = W.length := ⟨_, rfl⟩
  rw [← hm] at hc1 hS ⊢
  have hmx : m ≤ 9223372036854775807 := by unfold maxLen at hc2; omega
  have HM := Lib.hid hm
  obtain ⟨wa, hwa⟩ : ∃ wa, wa = w.alloc (vo v) := ⟨_, rfl⟩
  have HWA := Lib.hid hwa
  have HC0 := Lib.hid (show Chg [] w wa by rw [hwa]; exact (Chg.refl [] w).alloc _)
  have HS := Lib.hid (show SeenV wa (.slice ao m cap) W from hS.keep HC0.out)
  obtain ⟨gb, hgb⟩ : ∃ gb, gb = w.heap.size := ⟨_, rfl⟩
  have q0 : wa.cell? ⟨gb, 0, none⟩ = some (.int .i64 v.n) := by rw [hwa, hgb, cell_of_row _ _ 0 _ _ _ (heap_alloc_new w (vo v))]; rfl
  have q1 : wa.cell? ⟨gb, 1, none⟩ = some (.string v.s) := by rw [hwa, hgb, cell_of_row _ _ 1 _ _ _ (heap_alloc_new w (vo v))]; rfl
  obtain ⟨R, hR⟩ : ∃ R : Int, R = (if v ∈ W then ((plcV W v : Nat) : Int) else -1) := ⟨_, rfl⟩
  rw [← hR]
  have HR := Lib.hid hR
  clear hS hm hR
  go_enter Try.func23, Try.ntmps23
  go_upto_region 2 with fail
  rw [← hwa, ← hgb]
  clear hwa hgb
  go_loopw [5] (fun i w' => ∃ j : Nat, j ≤ m ∧ i = .int .i64 (j : Int) ∧ (∀ i, i < j → W[i]? ≠ some v) ∧ ∃ q, w' = wa.drewN q) (fun i _ => m - (intOf i).toNat)
  case atStart => exact ⟨0, Nat.zero_le _, rfl, fun i h => absurd h (Nat.not_lt_zero _), 0, rfl⟩
  case round =>
    obtain ⟨j, hj, rfl, hno, q, rfl⟩ := hrel
    have HNO := Lib.hid hno
    clear hno
    by_cases hlt : j < m
    · have d1 : decide ((j : Int) < (m : Int)) = true := by simp; omega
      obtain ⟨x, hx⟩ : ∃ x, W[j]? = some x := ⟨_, List.getElem?_eq_getElem (by rw [← HM.out]; exact hlt)⟩
      obtain ⟨g, off, rfl, hcell⟩ := SeenV.get HS.out (by omega)
      obtain ⟨k0, k1⟩ := hcell j x hx
      have HX := Lib.hid hx
      clear hcell hx
      by_cases hxv : x = v
      · have E := Lib.hid (show R = (j : Int) by
          rw [HR.out, if_pos (by rw [← hxv]; exact List.mem_of_getElem? HX.out), plcV_first (by rw [← hxv]; exact HX.out) HNO.out])
        rw [hxv] at k0 k1
        have hee : (v.s.toList == v.s.toList) = true := by simp
        clear hxv
        go_wp2
        go_quiet (fail)
        go_wp2
        go_ret
        exact ⟨by rw [E.out]; rfl, (HC0.out.drewN _).drewN _⟩
      · have HJ := Lib.hid (show ∀ i, i < j + 1 → W[i]? ≠ some v from fun i hi => by
          rcases Nat.lt_or_ge i j with h | h
          · exact HNO.out i h
          · obtain rfl : i = j := by omega
            rw [HX.out]
            intro e
            exact hxv (Option.some.inj e))
        obtain ⟨xn, xs⟩ := x
        obtain ⟨vn, vs⟩ := v
        by_cases hnn2 : xn = vn
        · have hss : (xs.toList == vs.toList) = false := by
            have : ¬ xs.toList = vs.toList := fun e => hxv (by rw [hnn2, toList_inj e])
            simpa using this
          have hni : (xn == vn) = true := by simp [hnn2]
          clear hxv hnn2
          go_wp2
          go_quiet (fail)
          go_wp2
          go_roundw
          case rel => exact ⟨j + 1, hlt, by go_num, HJ.out, _, rfl⟩
          case measure => simp [intOf]; omega
        · have hni : (xn == vn) = false := by simpa using hnn2
          clear hxv hnn2
          go_wp2
          go_quiet (fail)
          go_wp2
          go_roundw
          case rel => exact ⟨j + 1, hlt, by go_num, HJ.out, _, rfl⟩
          case measure => simp [intOf]; omega
    · have d1 : decide ((j : Int) < (m : Int)) = false := by simp; omega
      have E := Lib.hid (show R = -1 by
        rw [HR.out, if_neg]
        intro hm
        obtain ⟨i, hi⟩ := List.getElem?_of_mem hm
        have := (List.getElem?_eq_some_iff.1 hi).1
        exact HNO.out i (by have := HM.out; omega) hi)
      go_wp2
      go_ret
      exact ⟨by rw [E.out]; rfl, HC0.out.drewN _⟩

set_option maxRecDepth 100000 in
set_option maxHeartbeats 4000000 in
theorem rbuild_any (lv : Value) (l : List V) (most : Int) (w : World) (hS : SeenV w lv l) (hl : l.length ≤ 100000) (hm : (Lit.int .i64 most).wf = true) :
    Calls Try.prog 14 #[lv, .int .i64 most] w (BldOut w l most) := by
  obtain ⟨i0, hi, hz0, hz1, hz2⟩ := info_int
  obtain ⟨i1, hi1, hz01, hz11, hz21⟩ := info_value
  obtain ⟨ao, cap, rfl, hc1, hc2⟩ := hS.shape
  have HS := Lib.hid hS
  have hb := wf_i64 hm
  obtain ⟨n, hn⟩ : ∃ n, n = l.length := ⟨_, rfl⟩
  rw [← hn] at hl hc1 HS ⊢
  have HN := Lib.hid hn
  clear hS hn hm
  by_cases h0 : most < 0
  · have E := Lib.hid (bldL_out (l := l) (Or.inl h0))
    have d1 : decide (most < 0) = true := by simpa using h0
    go_enter Try.func14, Try.ntmps14
    go_wp2
    go_ret3
    exact BldOut.none E.out (Chg.refl _ _)
  by_cases h256 : 256 < most
  · have E := Lib.hid (bldL_out (l := l) (Or.inr h256))
    have d1 : decide (most < 0) = false := by simpa using h0
    have d2 : decide (256 < most) = true := by simpa using h256
    go_enter Try.func14, Try.ntmps14
    go_wp2
    go_ret3
    exact BldOut.none E.out (Chg.refl _ _)
  have d1 : decide (most < 0) = false := by simpa using h0
  have d2 : decide (256 < most) = false := by simpa using h256
  have hmm : 0 ≤ most ∧ most ≤ 256 := by omega
  clear h0 h256 hb
  go_enter Try.func14, Try.ntmps14
  go_wp2
  go_loopw [7, 8, 9] (fun wv av i w' => ∃ j : Nat, j ≤ n ∧ i = .int .i64 (j : Int) ∧ Chg [] w w' ∧ w'.ownsRow w.heap.size 28 2 wv (wdsL (l.take j)).length ((wdsL (l.take j)).flatMap V.cs) ∧ w'.ownsRow w.heap.size 3 1 av j (nv .i64 (atsL (l.take j))) ∧ ((wdsL (l.take j)).length : Int) ≤ most) (fun _ _ i _ => n - (intOf i).toNat)
  case atStart => exact ⟨0, Nat.zero_le _, rfl, Chg.refl _ _, by simpa [wdsL] using World.ownsRow_nil _ _ _ _, by simpa [atsL, nv] using World.ownsRow_nil _ _ _ _, hmm.1⟩
  case round =>
    obtain ⟨j, hj, rfl, hc, hw, ha, hle⟩ := hrel
    obtain ⟨wo, wc, rfl⟩ := own_shape hw
    obtain ⟨xo, xc, rfl⟩ := own_shape ha
    have HC := Lib.hid hc; have HW := Lib.hid hw; have HT := Lib.hid ha; have HLE := Lib.hid hle
    have hB := hc.size
    clear hc hw ha hle
    by_cases hlt : j < n
    · have e1 : decide ((j : Int) < (n : Int)) = true := by simp; omega
      obtain ⟨v, hv⟩ : ∃ v, l[j]? = some v := ⟨_, List.getElem?_eq_getElem (by rw [← HN.out]; exact hlt)⟩
      obtain ⟨g, off, rfl, hcell⟩ := HS.out.get (by omega)
      obtain ⟨q0, q1⟩ := hcell j v hv
      have x0 := HC.out.cell q0 (by simp)
      have x1 := HC.out.cell q1 (by simp)
      have HF := Lib.hid (rfind_any _ (wdsL (l.take j)) v wr (SeenK.own V.cs_len HW.out rfl))
      have HV := Lib.hid hv
      obtain ⟨m, hm⟩ : ∃ m, m = (wdsL (l.take j)).length := ⟨_, rfl⟩
      have HMM := Lib.hid hm
      rw [← hm] at HF HW ⊢
      have hml : (m : Int) ≤ most := by rw [hm]; exact HLE.out
      clear hcell q0 q1 hv hm
      by_cases hin : v ∈ wdsL (l.take j)
      · rw [if_pos hin] at HF
        obtain ⟨k, hk⟩ : ∃ k, k = plcV (wdsL (l.take j)) v := ⟨_, rfl⟩
        rw [← hk] at HF
        have hkm : k < m := by rw [hk, HMM.out]; exact plcV_lt hin
        have e2 : decide ((k : Int) < 0) = false := by simp
        have HK := Lib.hid (show plcV (addW (wdsL (l.take j)) v) v = k by rw [addW_in hin, hk])
        have HIN := Lib.hid hin
        clear hin hk
        go_wp2_with (first
          | (go_at_call 23; (with_reducible refine HF.out.mono ?_); rintro e w2 ⟨rfl, hc⟩; have HC2 := Lib.hid (HC.out.trans hc (by simp)); have HW2 := Lib.hid (own_chg HW.out hc (by simp)); have HT2 := Lib.hid (own_chg HT.out hc (by simp)); have hB2 := HC2.out.size; clear hc)
          | (at_builtin; refine wpList_append_own _ rfl _ _ 23 rfl w.heap.size 3 i0 (.int .i64 0) 1 8 Try.underlying23 hi hz0 hz1 hz2 rfl (by decide) _ _ _ rfl (HT2.out.alloc _) ⟨w2.heap.size, 0, none⟩ 1 1 [.int .i64 (k : Int)] rfl rfl (cell_one_new _ _ _) (by simp [Value.oneCell']) (by unfold maxLen; omega) (by omega) (by simp; omega) ?_; intro v3 w3 hown3 hgrow3 _; obtain ⟨yo, yc, rfl⟩ := own_shape hown3; have HG := Lib.hid hgrow3; have HO3 := Lib.hid hown3; clear hgrow3 hown3)
          | fail)
        have hc3 : Chg (Value.slice xo j xc).ownBlock.toList w2 w3 := ((Chg.refl _ w2).alloc _).grown HG.out (fun g hg => .inl (by have h : (Value.slice xo j xc).ownBlock = some g := hg; simp [h]))
        have HC3 := Lib.hid hc3
        clear hc3
        go_roundw
        case rel =>
          refine ⟨j + 1, hlt, by go_num, HC2.out.trans HC3.out (fun g hg => .inr (by simp at hg; exact own_ge HT2.out g hg)), ?_, ?_, ?_⟩
          · rw [wdsL_take HV.out, addW_in HIN.out, ← HMM.out]
            exact own_chg HW2.out HC3.out (own_apart HW2.out HT2.out (by decide))
          · rw [atsL_take HV.out, HK.out]
            simpa [nv] using HO3.out
          · rw [wdsL_take HV.out, addW_in HIN.out]; exact HLE.out
        case measure => simp [intOf]; omega
      · rw [if_neg hin] at HF
        by_cases hfull : (m : Int) = most
        · have E := Lib.hid (bldL_many (most := most) HV.out hin (by rw [← HMM.out]; exact hfull))
          have e3 : decide (most ≤ (m : Int)) = true := by
            have : most ≤ (m : Int) := by omega
            simpa using this
          clear hin hfull
          go_wp2_with (first
            | (go_at_call 23; (with_reducible refine HF.out.mono ?_); rintro e w2 ⟨rfl, hc⟩; have HC2 := Lib.hid (HC.out.trans hc (by simp)); clear hc)
            | fail)
          go_ret3
          exact BldOut.none E.out HC2.out
        · have e3 : decide (most ≤ (m : Int)) = false := by simp; omega
          have HIN := Lib.hid hin
          clear hin
          go_wp2_with (first
            | (go_at_call 23; (with_reducible refine HF.out.mono ?_); rintro e w2 ⟨rfl, hc⟩; have HC2 := Lib.hid (HC.out.trans hc (by simp)); have HW2 := Lib.hid (own_chg HW.out hc (by simp)); have HT2 := Lib.hid (own_chg HT.out hc (by simp)); have y0 := hc.cell x0 (by simp); have y1 := hc.cell x1 (by simp); have hB2 := HC2.out.size; clear hc)
            | (at_builtin; refine wpList_append_own _ rfl _ _ 22 rfl w.heap.size 28 i1 (.agg #[.int .i64 0, .string ByteArray.empty]) 2 24 Try.underlying22 hi1 hz01 hz11 hz21 rfl (by decide) _ _ _ rfl (HW2.out.alloc _) ⟨w2.heap.size, 0, none⟩ 1 1 (V.cs v) rfl rfl (new_cells (C := #[.int .i64 v.n, .string v.s]) _ rfl) (V.one v) (by unfold maxLen; omega) (by omega) (by simp; omega) ?_; intro v3 w3 hown3 hgrow3 _; obtain ⟨yo, yc, rfl⟩ := own_shape hown3; have hc3 : Chg (Value.slice wo m wc).ownBlock.toList w2 w3 := ((Chg.refl _ w2).alloc _).grown hgrow3 (fun g hg => .inl (by have h : (Value.slice wo m wc).ownBlock = some g := hg; simp [h])); have HC3 := Lib.hid (HC2.out.trans hc3 (fun g hg => .inr (by simp at hg; exact own_ge HW2.out g hg))); have HT3 := Lib.hid (own_chg HT2.out hc3 (own_apart HT2.out HW2.out (by decide))); have HO3 := Lib.hid hown3; have hB3 := HC3.out.size; clear hgrow3 hown3 hc3)
            | (at_builtin; refine wpList_append_own _ rfl _ _ 23 rfl w.heap.size 3 i0 (.int .i64 0) 1 8 Try.underlying23 hi hz0 hz1 hz2 rfl (by decide) _ _ _ rfl (HT3.out.alloc _) ⟨w3.heap.size, 0, none⟩ 1 1 [.int .i64 (m : Int)] rfl rfl (cell_one_new _ _ _) (by simp [Value.oneCell']) (by unfold maxLen; omega) (by omega) (by simp; omega) ?_; intro v4 w4 hown4 hgrow4 _; obtain ⟨zo, zc, rfl⟩ := own_shape hown4; have HG := Lib.hid hgrow4; have HO4 := Lib.hid hown4; clear hgrow4 hown4)
            | fail)
          have hc4 : Chg (Value.slice xo j xc).ownBlock.toList w3 w4 := ((Chg.refl _ w3).alloc _).grown HG.out (fun g hg => .inl (by have h : (Value.slice xo j xc).ownBlock = some g := hg; simp [h]))
          have HC4 := Lib.hid hc4
          clear hc4
          go_roundw
          case rel =>
            refine ⟨j + 1, hlt, by go_num, HC3.out.trans HC4.out (fun g hg => .inr (by simp at hg; exact own_ge HT3.out g hg)), ?_, ?_, ?_⟩
            · rw [wdsL_take HV.out, addW_new HIN.out, List.length_append, List.flatMap_append, ← HMM.out]
              have := own_chg HO3.out HC4.out (own_apart HO3.out HT3.out (by decide))
              simpa using this
            · rw [atsL_take HV.out, addW_new HIN.out, plcV_new HIN.out, ← HMM.out]
              simpa [nv] using HO4.out
            · rw [wdsL_take HV.out, addW_new HIN.out, List.length_append, ← HMM.out]; simp; omega
          case measure => simp [intOf]; omega
    · have e1 : decide ((j : Int) < (n : Int)) = false := by simp; omega
      have E1 := Lib.hid (show l.take j = l by rw [show j = l.length by rw [← HN.out]; omega, List.take_length])
      have E := Lib.hid (bldL_in (l := l) hmm (by have := HLE.out; rw [E1.out] at this; exact this))
      go_wp2
      go_ret3
      unfold BldOut
      rw [E.out]
      refine ⟨_, _, rfl, HC.out, ?_, ?_⟩
      · have := HW.out
        rw [E1.out] at this ⊢
        exact this
      · have := HT.out
        rw [E1.out] at this
        show wr.ownsRow w.heap.size 3 1 _ (atsL l).length (nv .i64 (atsL l))
        have hh : (atsL l).length = j := by rw [atsL_len, ← HN.out]; omega
        rw [hh]
        exact this

end Go.Proofs.Ytegidbbigjhapaa
