/- Contract of the reference's Next of chapter 15. -/
import Derived.Test.YtpffgelllabfnaaGj
namespace Go.Proofs.Ytpffgelllabfnaa
open Go.RowKit
set_option linter.unusedVariables false
set_option linter.unusedSimpArgs false

/-- A row that was made, of integers. -/
structure RowO (w : World) (x : Value) (l : List Nat) : Prop where
  rd : Reads w x (nv .i64 l)
  tg : Tagged w 3 x

theorem RowO.keep {w w' : World} {S : List Nat} {x : Value} {l : List Nat} (h : RowO w x l) (hc : Chg S w w') (hS : ∀ g, x.ownBlock = some g → g ∉ S) : RowO w' x l := ⟨h.rd.keep hc hS, h.tg.keep hc hS⟩

/-- Another row, of rows, lies elsewhere. -/
theorem RowO.ne {w : World} {x y : Value} {l : List Nat} (h : RowO w x l) (hy : Tagged w 22 y) : ∀ g, x.ownBlock = some g → g ∉ y.ownBlock.toList := by
  intro g hg hm
  obtain ⟨cur, fr, hb⟩ := hy g (by simpa using hm)
  exact h.tg.ne hb (by decide) g hg rfl

set_option maxRecDepth 100000 in
set_option maxHeartbeats 4000000 in
theorem rnext15_any (sv : Value) (l : List F) (w : World) (hS : SeenF w sv l) (hl : l.length ≤ 1000) (hw : ∀ f ∈ l, f.c ≤ 9223372036854775807) :
    Calls Try.prog 16 #[sv] w fun e w' => ∃ v, e = .returned v ∧ RowsN .i64 w' v (nextL (trs l)) ∧ Chg [] w w' := by
  obtain ⟨i0, hi, hz0, hz1, hz2⟩ := info_int
  obtain ⟨i1, hi1, hy0, hy1, hy2⟩ := info_ints
  obtain ⟨so, sc, rfl, h1, h2⟩ := hS.shape
  have HRL := Lib.hid (rleaves_any _ l w hS (by omega) hw)
  obtain ⟨T, hT⟩ : ∃ T, T = trs l := ⟨_, rfl⟩
  have HCM := Lib.hid (show ∀ (i j : Int) wx, Chg [] w wx → Calls Try.prog 14 #[.slice so l.length sc, .int .i64 i, .int .i64 j] wx fun e w' => e = .returned (.int .i64 (cmn T i j : Nat)) ∧ Chg [] wx w' from fun i j wx h => by rw [hT]; exact rcommon15_any _ l i j wx (hS.keep h) hl hw)
  obtain ⟨N, hN⟩ : ∃ N, N = (leavesL l).length := ⟨_, rfl⟩
  have hNl : N ≤ 1000 := by have h := leavesTo_le l l.length; rw [hN]; unfold leavesL; omega
  have HTL := Lib.hid (show T.length = N by rw [hT, trs_length, hN])
  have HLF := Lib.hid (show ∀ k lf, (leavesL l)[k]? = some lf → lf.r = ((T.getD k []).length : Int) ∧ (T.getD k []).length ≤ 1000 from fun k lf h => by
    obtain ⟨h1, h2⟩ := leaf_trs h
    rw [hT]; exact ⟨h1, by omega⟩)
  have HN := Lib.hid hN
  rw [← hT]
  obtain ⟨n, hn⟩ : ∃ n, n = l.length := ⟨_, rfl⟩
  rw [← hn] at HRL HCM ⊢
  clear hS hl hw hT hN h1 hn
  go_enter Try.func16, Try.ntmps16
  go_wp2_with fail
  refine HRL.out.mono ?_
  rintro e w2 ⟨fv, rfl, hsl, hk⟩
  obtain ⟨fo, fc, rfl, hfl1, hfl2⟩ := hsl.shape
  rw [← HN.out] at hfl1 hsl ⊢
  have HSL := Lib.hid hsl
  have HK2 := Lib.hid hk
  clear hk hsl
  go_wp2
  go_loopw [4, 5] (fun lv x w' => ∃ (k : Nat) (VL : List Value), x = .int .i64 (k : Int) ∧ k ≤ N ∧ Chg [] w2 w' ∧ w'.ownsRow w2.heap.size 22 1 lv k VL ∧ ∀ j, j < k → ∃ x, VL[j]? = some x ∧ RowO w' x (nxRow T j)) (fun _ x _ => N - (intOf x).toNat)
  case atStart => exact ⟨0, [], rfl, Nat.zero_le _, Chg.refl _ _, ⟨rfl, .inl ⟨rfl, rfl⟩⟩, by simp⟩
  case round =>
    obtain ⟨k, VL, rfl, hkN, hc, ho, hbs⟩ := hrel
    obtain ⟨wq, rfl⟩ : ∃ wq, wq = wr := ⟨_, rfl⟩
    obtain ⟨lo, lc, rfl⟩ := own_shape ho
    have HC := Lib.hid hc; have HOL := Lib.hid ho; have HBS := Lib.hid hbs
    clear hc ho hbs
    by_cases hlt : k < N
    · obtain ⟨lf, hlf⟩ : ∃ lf, (leavesL l)[k]? = some lf := ⟨_, List.getElem?_eq_getElem (by rw [← HN.out]; exact hlt)⟩
      obtain ⟨fg, foff, rfl, hcs⟩ := SeenK.at HSL.out (by omega)
      obtain ⟨-, b1, -, -⟩ := SeenL.cells hcs hlf
      obtain ⟨l1, l2⟩ := HLF.out k lf hlf
      rw [l1] at b1
      obtain ⟨R, hR⟩ : ∃ R, R = (T.getD k []).length := ⟨_, rfl⟩
      rw [← hR] at b1 l2
      have HB1 := Lib.hid b1; have HR := Lib.hid hR
      clear hlf hcs b1 l1 hR
      go_wp2
      go_loopw [6, 7] (fun rv y w' => ∃ r : Nat, y = .int .i64 (r : Int) ∧ r ≤ R + 1 ∧ Chg [] wq w' ∧ w'.ownsRow wq.heap.size 3 1 rv r (nv .i64 ((List.range r).map (aft T k)))) (fun _ y _ => R + 1 - (intOf y).toNat)
      case atStart => exact ⟨0, rfl, Nat.zero_le _, Chg.refl _ _, ⟨rfl, .inl ⟨rfl, rfl⟩⟩⟩
      case round =>
        obtain ⟨r, rfl, hrR, hcx, ho⟩ := hrel
        obtain ⟨wp, rfl⟩ : ∃ wp, wp = wr := ⟨_, rfl⟩
        obtain ⟨ro, rc, rfl⟩ := own_shape ho
        have HCX := Lib.hid hcx; have HO := Lib.hid ho
        have c1 := (HC.out.trans hcx (by simp)).cell HB1.out (by simp)
        have HCW := Lib.hid (HK2.out.trans (HC.out.trans hcx (by simp)) (by simp))
        clear hcx ho
        by_cases hrl : r ≤ R
        · have j1 : (r : Int) ≤ (R : Int) := by omega
          obtain ⟨D, hD⟩ : ∃ D, D = cmn T (k : Int) ((k : Int) + 1) := ⟨_, rfl⟩
          have HD := Lib.hid hD
          clear hD
          by_cases hrD : r ≤ D
          · have j2 : ¬ ((D : Int) < (r : Int)) := by omega
            have VEQ := Lib.hid (show aft T k r = k + 1 by unfold aft; rw [if_pos (by rw [← HD.out]; exact hrD)])
            clear hrD
            go_wp2_with fail
            refine (HCM.out _ _ wp HCW.out).mono ?_
            rintro e w5 ⟨rfl, hk⟩
            rw [← HD.out]
            have HCY := Lib.hid hk
            have HCA := Lib.hid (HCX.out.trans hk (by simp))
            clear hk
            have HM2 := Lib.hid (show r + 1 ≤ maxLen by unfold maxLen; omega)
            have HM3 := Lib.hid (show (r + 1) * 8 ≤ 140737488355328 by omega)
            have HBX := Lib.hid HCA.out.size
            have HOB := Lib.hid (own_chg HO.out HCY.out (by simp))
            go_wp2_with (first
              | (at_builtin; refine wpList_append_at _ rfl (.tmp 43) (.tmp 45) _ rfl wq.heap.size 3 i0 (.int .i64 0) 1 8 Try.underlying22 hi hz0 hz1 hz2 rfl (by omega) (.slice ro r rc) r _ rfl (HOB.out.alloc _) ⟨w5.heap.size, 0, none⟩ 1 1 [.int .i64 ((k : Int) + 1)] rfl rfl (new_cells (C := #[.int .i64 ((k : Int) + 1)]) _ (by simp)) (by simp [Value.oneCell']) HM2.out HM3.out (le_alloc HBX.out _) ?_; intro v2 w6 hown2 hg2 hat2; obtain ⟨a4, c4, rfl⟩ := own_shape hown2; have HO2 := Lib.hid hown2; have HC6 := Lib.hid ((HCA.out.alloc _).grown hg2 (fun k hk => .inr (own_ge HO.out k hk))); clear hown2 hg2 hat2)
              | fail)
            go_roundw
            case rel =>
              refine ⟨r + 1, by go_num, by omega, HC6.out, ?_⟩
              have h := HO2.out
              rw [List.range_succ, List.map_append]
              have e := VEQ.out
              simp only [nv, List.map_append, List.map_cons, List.map_nil, List.map_map, e] at h ⊢
              exact h
            case measure => simp [intOf]; omega
          · have j2 : (D : Int) < (r : Int) := by omega
            obtain ⟨p, hp⟩ : ∃ p : Nat → Bool, p = fun (j : Nat) => decide (r ≤ cmn T (k : Int) (j : Int)) := ⟨_, rfl⟩
            have HP := Lib.hid (show ∀ j, p j = decide (r ≤ cmn T (k : Int) (j : Int)) from fun j => by rw [hp])
            have HE := Lib.hid (show aft T k r = fstJ p k 0 by unfold aft; rw [if_neg (by rw [← HD.out]; exact hrD), hp])
            have HII := Lib.hid (show r ≤ cmn T (k : Int) (k : Int) by rw [cmn_self T k (by rw [HTL.out]; exact hlt), ← HR.out]; exact hrl)
            clear hrD hp
            go_wp2_with fail
            refine (HCM.out _ _ wp HCW.out).mono ?_
            rintro e w5 ⟨rfl, hk⟩
            rw [← HD.out]
            have HCY5 := Lib.hid hk
            clear hk
            go_wp2
            go_loopw [8] (fun y w' => ∃ j : Nat, y = .int .i64 (j : Int) ∧ j ≤ k ∧ fstJ p (k - j) j = fstJ p k 0 ∧ Chg [] w5 w') (fun y _ => k - (intOf y).toNat)
            case atStart => exact ⟨0, rfl, Nat.zero_le _, rfl, Chg.refl _ _⟩
            case round =>
              obtain ⟨j, rfl, hjk, hf, hcz⟩ := hrel
              have HF := Lib.hid hf; have HCZ := Lib.hid (HCY5.out.trans hcz (by simp)); have HC5 := Lib.hid hcz
              clear hf hcz
              go_wp2_with fail
              refine (HCM.out _ _ wr (HCW.out.trans HCZ.out (by simp))).mono ?_
              rintro e w7 ⟨rfl, hk⟩
              obtain ⟨c, hcc⟩ : ∃ c, c = cmn T (j : Int) (k : Int) := ⟨_, rfl⟩
              have hcc2 := hcc
              rw [cmn_comm] at hcc2
              rw [← hcc]
              have HCC := Lib.hid hcc2
              have HCY := Lib.hid (HCZ.out.trans hk (by simp))
              have HC7 := Lib.hid (HC5.out.trans hk (by simp))
              have HCA := Lib.hid (HCX.out.trans HCY.out (by simp))
              clear hk hcc hcc2
              by_cases h3 : c < r
              · have h4 : (c : Int) < (r : Int) := by omega
                have hji : j < k := by
                  refine Classical.byContradiction fun h => ?_
                  have e : j = k := by omega
                  subst e
                  have := HII.out
                  rw [← HCC.out] at this
                  omega
                have HF2 := Lib.hid (show fstJ p (k - (j + 1)) (j + 1) = fstJ p k 0 by
                  have h := HF.out
                  rw [show k - j = (k - (j + 1)) + 1 by omega, fstJ, HP.out, ← HCC.out, if_neg (by simp; omega)] at h
                  exact h)
                go_wp2
                go_roundw
                case rel => exact ⟨j + 1, by go_num, by omega, HF2.out, HC7.out⟩
                case measure => simp [intOf]; omega
              · have h4 : ¬ (c : Int) < (r : Int) := by omega
                have VEQ := Lib.hid (show aft T k r = j by
                  rw [HE.out]
                  have h := HF.out
                  by_cases e : j = k
                  · rw [show k - j = 0 by omega, fstJ] at h; exact h.symm
                  · rw [show k - j = (k - j - 1) + 1 by omega, fstJ, HP.out, ← HCC.out, if_pos (by simp; omega)] at h
                    exact h.symm)
                have HM2 := Lib.hid (show r + 1 ≤ maxLen by unfold maxLen; omega)
                have HM3 := Lib.hid (show (r + 1) * 8 ≤ 140737488355328 by omega)
                have HBX := Lib.hid HCA.out.size
                have HOB := Lib.hid (own_chg HO.out HCY.out (by simp))
                go_wp2_with (first
                  | (at_builtin; refine wpList_append_at _ rfl (.tmp 43) (.tmp 45) _ rfl wq.heap.size 3 i0 (.int .i64 0) 1 8 Try.underlying22 hi hz0 hz1 hz2 rfl (by omega) (.slice ro r rc) r _ rfl (HOB.out.alloc _) ⟨w7.heap.size, 0, none⟩ 1 1 [.int .i64 (j : Int)] rfl rfl (new_cells (C := #[.int .i64 (j : Int)]) _ (by simp)) (by simp [Value.oneCell']) HM2.out HM3.out (le_alloc HBX.out _) ?_; intro v2 w6 hown2 hg2 hat2; obtain ⟨a4, c4, rfl⟩ := own_shape hown2; have HO2 := Lib.hid hown2; have HC6 := Lib.hid ((HCA.out.alloc _).grown hg2 (fun k hk => .inr (own_ge HO.out k hk))); clear hown2 hg2 hat2)
                  | fail)
                go_roundw
                case rel =>
                  refine ⟨r + 1, by go_num, by omega, HC6.out, ?_⟩
                  have h := HO2.out
                  rw [List.range_succ, List.map_append]
                  have e := VEQ.out
                  simp only [nv, List.map_append, List.map_cons, List.map_nil, List.map_map, e] at h ⊢
                  exact h
                case measure => simp [intOf]; omega
        · have j1 : ¬ ((r : Int) ≤ (R : Int)) := by omega
          have er : r = R + 1 := by omega
          have HRO := Lib.hid (show RowO wp (.slice ro r rc) (nxRow T k) by
            have h := HO.out
            rw [show (List.range r).map (aft T k) = nxRow T k by unfold nxRow; rw [← HR.out, er]] at h
            exact ⟨reads_of_own h, tagged_of_own h⟩)
          have HM2 := Lib.hid (show k + 1 ≤ maxLen by unfold maxLen; omega)
          have HM3 := Lib.hid (show (k + 1) * 24 ≤ 140737488355328 by omega)
          have HOB := Lib.hid (own_chg HOL.out HCX.out (by simp))
          have HBX := Lib.hid (HC.out.trans HCX.out (by simp)).size
          clear er
          go_wp2_with (first
            | (at_builtin; refine wpList_append_at _ rfl (.tmp 47) (.tmp 49) _ rfl w2.heap.size 22 i1 (.slice none 0 0) 1 24 Try.underlying30 hi1 hy0 hy1 hy2 rfl (by omega) (.slice lo k lc) k VL rfl (HOB.out.alloc _) ⟨wp.heap.size, 0, none⟩ 1 1 [.slice ro r rc] rfl rfl (new_cells (C := #[.slice ro r rc]) _ (by simp)) (by simp [Value.oneCell']) HM2.out HM3.out (le_alloc HBX.out _) ?_; intro v2 w6 hown2 hg2 hat2; obtain ⟨a4, c4, rfl⟩ := own_shape hown2; have HO2 := Lib.hid hown2; have HC6 := Lib.hid (((HC.out.trans HCX.out (by simp)).alloc _).grown hg2 (fun k hk => .inr (own_ge HOB.out k hk))); have HS6 := Lib.hid (((Chg.refl (Value.slice lo k lc).ownBlock.toList wp).alloc _).grown hg2 (fun q hq => .inl (by simp [← hq]))); clear hown2 hg2 hat2)
            | fail)
          go_roundw
          case rel =>
            have hvl : VL.length = k := by have := HOL.out.1; simpa using this
            have htg := tagged_of_own HOB.out
            refine ⟨k + 1, _, by go_num, by omega, HC6.out, HO2.out, fun j hj => ?_⟩
            by_cases hjk : j < k
            · obtain ⟨x, hx, hr⟩ := HBS.out j hjk
              have hr2 := hr.keep HCX.out (by simp)
              exact ⟨x, by rw [List.getElem?_append_left (by omega)]; exact hx, hr2.keep HS6.out (hr2.ne htg)⟩
            · have e : j = k := by omega
              subst e
              exact ⟨_, by rw [List.getElem?_append_right (by omega), hvl, Nat.sub_self]; rfl, HRO.out.keep HS6.out (HRO.out.ne htg)⟩
          case measure => simp [intOf]; omega
    · have ek : k = N := by omega
      have HE := Lib.hid ek
      clear ek
      go_wp2
      go_ret
      refine ⟨_, rfl, ?_, HK2.out.trans HC.out (by simp)⟩
      have e : nextL T = (List.range k).map (nxRow T) := by unfold nextL; rw [HTL.out, HE.out]
      rw [e]
      refine RowsN.own (n := k) HOL.out (by simp) fun j hj => ?_
      obtain ⟨x, hx, hr⟩ := HBS.out j hj
      refine ⟨x, hx, ?_⟩
      have e2 : ((List.range k).map (nxRow T)).getD j [] = nxRow T j := by simp [List.getD, hj]
      rw [e2]
      exact hr.rd.seen

end Go.Proofs.Ytpffgelllabfnaa
