/- The walk of the statement DictReads. -/
import Derived.Test.YtegidbbigjhapaaEn
import Derived.Deep.RegionLaw
import Derived.Deep.RegionHeld3
namespace Go.Proofs.Ytegidbbigjhapaa
open Go.RowKit
set_option linter.unusedVariables false
set_option linter.unusedSimpArgs false

theorem kr_cell {w : World} {g : Nat} {x y z : Int} (h : w.heap[g]? = some (.cells #[.int .i64 x, .int .i64 y, .int .i64 z] 3)) (k : Nat) (hk : k < 3) : w.cell? ⟨g, k, none⟩ = some (.int .i64 ([x, y, z].getD k 0)) := by
  rw [cell_of_row w g k _ _ _ h]
  have : k = 0 ∨ k = 1 ∨ k = 2 := by omega
  rcases this with rfl | rfl | rfl <;> rfl

set_option maxRecDepth 100000 in
set_option maxHeartbeats 4000000 in
theorem walk_DictReads (a0 : Option Addr) (len0 cap0 : Nat) (z0 : List Int) (a1 : Int) (a2 : Option Addr) (len2 cap2 : Nat) (l2 : List V) (a3 : Int) (w : World) (w0 : IsRow .u8 w a0 len0 cap0 z0) (w1 : (Lit.int .i64 a1).wf = true) (w2 : SeenV w (.slice a2 len2 cap2) l2) (v2 : ∀ v ∈ l2, (Lit.int .i64 v.n).wf = true) (w3 : (Lit.int .i64 a3).wf = true) :
    Calls Try.prog 4 #[.slice a0 len0 cap0, .int .i64 a1, .slice a2 len2 cap2, .int .i64 a3] w fun e w' => e = .returned (.bool true) ∧ Below w.heap.size w w' := by
  obtain ⟨i0, hi, hz0, hz1, hz2⟩ := info_value
  obtain ⟨i8, hi8, hz80, hz81, hz82⟩ := info_u8
  obtain ⟨B, hBs, hBl, hB8⟩ := w0.u8s
  have HBS := Lib.hid hBs; have HB8 := Lib.hid hB8; have HBL := Lib.hid hBl
  have HS := Lib.hid w2; have HV := Lib.hid v2
  have HW1 := Lib.hid w1
  have HQ1 := Lib.hid (fun wx => within13 a1 40 40 wx rfl (by decide) (by decide) w1)
  obtain ⟨P1, hP1⟩ : ∃ P, P = (a1 % ((40 : Nat) : Int)).toNat := ⟨_, rfl⟩
  have hP14 : P1 < 40 := by rw [hP1]; exact within_lt a1 40 (by decide)
  rw [← hP1] at HQ1
  have HQ3 := Lib.hid (fun wx => within13 a3 5 5 wx rfl (by decide) (by decide) w3)
  obtain ⟨P3, hP3⟩ : ∃ P, P = (a3 % ((5 : Nat) : Int)).toNat := ⟨_, rfl⟩
  have hP34 : P3 < 5 := by rw [hP3]; exact within_lt a3 5 (by decide)
  rw [← hP3] at HQ3
  obtain ⟨td1, td2, td3⟩ := tdiv_wf a3 5 (by decide) w3
  have HQ5 := Lib.hid (fun wx => within13 (a3.tdiv 5) 6 6 wx rfl (by decide) (by decide) td1)
  obtain ⟨P5, hP5⟩ : ∃ P, P = ((a3.tdiv 5) % ((6 : Nat) : Int)).toNat := ⟨_, rfl⟩
  have hP54 : P5 < 6 := by rw [hP5]; exact within_lt _ 6 (by decide)
  rw [← hP5] at HQ5
  have HQQ := Lib.hid (show Go.RowKit.wrap64 (a3.tdiv 5) = a3.tdiv 5 from IntWalk.wrap64_in _ ⟨td2, td3⟩)
  clear w0 w1 w2 v2 w3 hBs hB8 hBl hP1 hP3 hP5 td1 td2 td3
  by_cases h100 : 100 < len0
  · have d1 : decide ((100 : Int) < (len0 : Int)) = true := by simp; omega
    go_enter Try.func4, Try.ntmps4
    go_wp2_with fail
    refine (known13_any _).mono ?_
    rintro e wA ⟨rfl, hk⟩
    go_wp2_with fail
    go_ret
    exact ⟨rfl, hk.below (Nat.le_refl _) (by simp)⟩
  have d1 : decide ((100 : Int) < (len0 : Int)) = false := by simp; omega
  by_cases h60 : 60 < len2
  · have d2 : decide ((60 : Int) < (len2 : Int)) = true := by simp; omega
    go_enter Try.func4, Try.ntmps4
    go_wp2_with fail
    refine (known13_any _).mono ?_
    rintro e wA ⟨rfl, hk⟩
    go_wp2_with fail
    go_ret
    exact ⟨rfl, hk.below (Nat.le_refl _) (by simp)⟩
  have d2 : decide ((60 : Int) < (len2 : Int)) = false := by simp; omega
  have hB100 : len0 ≤ 100 := by omega
  clear h100 h60
  go_enter Try.func4, Try.ntmps4
  go_wp2_with fail
  refine (known13_any _).mono ?_
  rintro e wA ⟨rfl, hk⟩
  have HKA := Lib.hid hk
  clear hk
  go_wp2_with fail
  refine (all11_any 4 (by decide) _ l2 wA (HS.out.keep HKA.out) HV.out).mono ?_
  rintro e wB ⟨x, rfl, hc, ho⟩
  obtain ⟨lo, lc, rfl⟩ := own_shape ho
  have hL60 := allV_len 4 l2
  have HO := Lib.hid (show SeenV wB (.slice lo (allV 4 l2).length lc) (allV 4 l2) from SeenK.own V.cs_len ho rfl)
  have HKB := Lib.hid (HKA.out.trans hc (by simp))
  clear hc ho
  go_wp2_with fail
  refine (HQ3.out _).mono ?_
  rintro e w3 ⟨rfl, rfl⟩
  go_upto_if 30 with fail
  go_cut [9] (fun s wx => ∃ (so : Option Addr) (n sc : Nat) (W : List V), s = .slice so n sc ∧ n = W.length ∧ n ≤ 300 ∧ SeenV wx (.slice so n sc) W ∧ Chg [] w wx)
  case first =>
    by_cases h5 : P3 = 0
    · have HP5 := Lib.hid h5
      have h5b : ((P3 : Int) == 0) = true := by simp [h5]
      obtain ⟨n, hn⟩ : ∃ n, n = 254 + P5 := ⟨_, rfl⟩
      have hn3 : 254 ≤ n ∧ n ≤ 260 := by omega
      have hwn : IntKind.i64.wrap (254 + (P5 : Int)) = (n : Int) := by rw [IntWalk.i64_in _ (by omega)]; omega
      have hwn6 : Go.RowKit.wrap64 (254 + (P5 : Int)) = (n : Int) := by rw [show 254 + (P5 : Int) = (n : Int) by omega]; exact IntWalk.wrap64_in _ (by omega)
      clear h5 hn
      have hq := HQQ.out
      go_wp2_with (first
        | (go_at_call 11; (with_reducible refine (HQ5.out _).mono ?_); rintro e w3 ⟨rfl, rfl⟩)
        | (at_make; refine wpList_make_full _ rfl _ _ 22 rfl wB.heap.size 28 i0 (.agg #[.int .i64 0, .string ByteArray.empty]) 2 Try.underlying22 hi hz0 hz1 .i64 .i64 _ _ n rfl rfl rfl rfl ?c1 ?c2 (Nat.le_refl _) ?_)
        | fail)
      case c1 => clear hq hwn hwn6; rw [hz2]; omega
      case c2 => clear hq hwn hwn6; unfold maxLen; omega
      clear hq hwn hwn6
      intro w2 hown hg
      rw [cells_values] at hown
      have HC2 := Lib.hid (HKB.out.grown hg (by simp))
      have HW2 := Lib.hid (show SeenV w2 (.slice (some ⟨wB.heap.size, 0, none⟩) n n) (List.replicate n ⟨0, e0⟩) from SeenK.own V.cs_len hown (by simp))
      clear hown hg
      go_wp2
      go_meet
      case rel => exact ⟨_, n, n, List.replicate n ⟨0, e0⟩, rfl, by simp, Nat.le_trans hn3.2 (by decide), HW2.out, HC2.out⟩
    · have h5b : ((P3 : Int) == 0) = false := by simpa using h5
      go_wp2_with fail
      go_meet
      case rel => exact ⟨lo, (allV 4 l2).length, lc, allV 4 l2, rfl, rfl, Nat.le_trans hL60 (by decide), HO.out, HKB.out⟩
  case rest =>
    obtain ⟨so, n, sc, W, rfl, hn, hn3, hs, hc⟩ := hcut
    obtain ⟨wF, rfl⟩ : ∃ wF : World, wF = wc := ⟨_, rfl⟩
    have HN := Lib.hid hn; have HW := Lib.hid hs; have HKC := Lib.hid hc
    clear hn hs hc
    go_wp2_with (first
      | (go_at_call 11; (with_reducible refine (HQ1.out _).mono ?_); rintro e w3 ⟨rfl, rfl⟩)
      | fail)
    obtain ⟨gk, hgk⟩ : ∃ gk, gk = wF.heap.size := ⟨_, rfl⟩
    obtain ⟨wk, hwk⟩ : ∃ wk, wk = wF.alloc (.cells #[.int .i64 a1, .int .i64 (P1 : Int), .int .i64 (n : Int)] 3) := ⟨_, rfl⟩
    rw [← hwk, ← hgk]
    have HCK := Lib.hid (show Chg [] wF wk by rw [hwk]; exact (Chg.refl [] wF).alloc _)
    have HKS := Lib.hid (show wk.heap[gk]? = some (.cells #[.int .i64 a1, .int .i64 (P1 : Int), .int .i64 (n : Int)] 3) by rw [hwk, hgk]; exact heap_alloc_new _ _)
    clear hwk hgk
    go_loopw [11] (fun i w' => ∃ i0 : Nat, i0 ≤ 3 ∧ i = .int .i64 (i0 : Int) ∧ Chg [] wk w') (fun i _ => 3 - (intOf i).toNat)
    case atStart => exact ⟨0, Nat.zero_le _, rfl, Chg.refl _ _⟩
    case round =>
      obtain ⟨jj, hj3, rfl, hc⟩ := hrel
      have HCR := Lib.hid hc
      clear hc
      by_cases hlt3 : jj < 3
      · have d3 : decide ((jj : Int) < 3) = true := by simp; omega
        have b2 : (jj : Int) < 3 := by omega
        obtain ⟨num, hnum⟩ : ∃ num, num = ([a1, (P1 : Int), (n : Int)] : List Int).getD jj 0 := ⟨_, rfl⟩
        have HCL := Lib.hid (show ∀ wx, Chg [] wr wx → wx.cell? ⟨gk, jj, none⟩ = some (.int .i64 num) from fun wx hc => by
          rw [hnum]
          exact kr_cell (hc.heap (HCR.out.heap HKS.out (by simp)) (by simp)) jj hlt3)
        have HCW := Lib.hid (show Chg [] w wr from (HKC.out.trans HCK.out (by simp)).trans HCR.out (by simp))
        have HWr := Lib.hid (show SeenV wr (.slice so n sc) W from (HW.out.keep HCK.out).keep HCR.out)
        have HBr := Lib.hid (show Seen wr (.slice a0 len0 cap0) (nv .u8 B) from HBS.out.keep HCW.out)
        obtain ⟨U, Er, hU⟩ : ∃ U Er, ddecW B num W = (U, Er) := ⟨_, _, rfl⟩
        obtain ⟨nU, hnU⟩ : ∃ nU, nU = U.length := ⟨_, rfl⟩
        have HNU := Lib.hid hnU
        have HDEC := Lib.hid (show ∀ wx bv, Chg [] wr wx → Seen wx bv (nv .u8 B) → Calls Try.prog 18 #[bv, .int .i64 num, .slice so n sc] wx fun e w' => ∃ xo xc, e = .returned (.tuple #[.slice xo nU xc, .int .i64 Er]) ∧ Chg [] wx w' ∧ SeenV w' (.slice xo nU xc) U from fun wx bv hc hs => by
          refine (ddecode13_any bv B num _ W wx hs HB8.out (HWr.out.keep hc)).mono ?_
          rintro e w' ⟨xv, rfl, hk, ho⟩
          rw [hU] at ho ⊢
          obtain ⟨xo, xc, rfl⟩ := own_shape ho
          rw [hnU]
          exact ⟨xo, xc, rfl, hk, SeenK.own V.cs_len ho rfl⟩)
        have HREF := Lib.hid (show ∀ wx, Chg [] wr wx → Calls Try.prog 20 #[.slice a0 len0 cap0, .int .i64 num, .slice so n sc] wx fun e w' => ∃ xo xc, e = .returned (.tuple #[.slice xo nU xc, .int .i64 Er]) ∧ Chg [] wx w' ∧ SeenV w' (.slice xo nU xc) U from fun wx hc => by
          refine (rddecode13_any _ B num _ W wx (HBr.out.keep hc) HB8.out (by rw [← HBL.out]; omega) (HWr.out.keep hc)).mono ?_
          rintro e w' ⟨xv, rfl, hk, ho⟩
          rw [hU] at ho ⊢
          obtain ⟨xo, xc, rfl⟩ := own_shape ho
          rw [hnU]
          exact ⟨xo, xc, rfl, hk, SeenK.own V.cs_len ho rfl⟩)
        have HOL := Lib.hid (own_lit wr.drew wr.heap.size wr.heap.size rfl (Nat.le_refl _) 5 #[] [] 0 1 rfl rfl (by decide))
        have HSL := Lib.hid (HBr.out.keep ((Chg.refl [] wr).drew.alloc (.cells #[] 5)))
        have honeL := Lib.hid (nv_one .u8 B)
        have HM1 := Lib.hid (show 0 + (nv .u8 B).length ≤ maxLen by rw [nv_length, ← HBL.out]; unfold maxLen; omega)
        have HM2 := Lib.hid (show (0 + (nv .u8 B).length) * 1 ≤ 140737488355328 by rw [nv_length, ← HBL.out]; omega)
        have HSB := Lib.hid (show wr.heap.size ≤ (wr.drew.alloc (.cells #[] 5)).heap.size from ((Chg.refl [] wr).drew.alloc (.cells #[] 5)).size)
        have q1 := HCL.out wr (Chg.refl _ _)
        have q2 := HCL.out wr.drew (Chg.refl _ _).drew
        have q3 := HCL.out (wr.alloc (.cells #[] 5)) ((Chg.refl _ _).alloc _)
        have q4 := HCL.out (wr.drew.alloc (.cells #[] 5)) ((Chg.refl _ _).drew.alloc _)
        clear hU hnU hnum
        go_upto_region 12 with fail
        go_cut [12, 13] (fun s12 s13 wx => ∃ xo xc, s12 = .slice xo nU xc ∧ s13 = .int .i64 Er ∧ Chg [] wr wx ∧ SeenV wx (.slice xo nU xc) U)
        case first =>
          go_region_held3 (fun w' => w'.cell? ⟨gk, jj, none⟩ = some (.int .i64 num)) (first | exact q1 | exact q2 | exact q3 | exact q4 | exact s1 | exact u1) (first
            | (refine step_append_reads (by rfl) (.tmp 47) (.tmp 48) 34 34 (by rfl) wr.heap.size 5 5 i8 (.int .u8 0) 1 Try.underlying34 Try.underlying34 hi8 hz80 hz81 hz82 (by rfl) (.slice (some ⟨wr.heap.size, 0, none⟩) 0 0) 0 [] (by rfl) HOL.out (.slice a0 len0 cap0) (nv .u8 B) (by rfl) HSL.out honeL.out HM1.out HM2.out HSB.out ?_; intro v10 w10 hown hgrow; rw [nv_length, Nat.zero_add, List.nil_append] at hown; obtain ⟨va, vc, rfl⟩ := own_shape hown; have HC10 := Lib.hid (show Chg [] wr w10 from (((Chg.refl [] wr).drew.alloc (.cells #[] 5)).grown hgrow (fun g hg => .inr (HOL.out.lt g hg).1))); have HS10 := Lib.hid (reads_of_own hown).seen; have s1 := HCL.out w10 HC10.out; clear hown hgrow)
            | (go_simp; go_at_call 18; (with_reducible refine (HDEC.out _ _ HC10.out HS10.out).mono ?_); rintro e w11 ⟨xo, xc, rfl, hk1, hs1⟩; have HC11 := Lib.hid (HC10.out.trans hk1 (by simp)); have HS11 := Lib.hid hs1; have u1 := HCL.out w11 HC11.out; clear hk1 hs1))
          all_goals
            try go_wp2
            go_meet
            case rel => exact ⟨xo, xc, rfl, rfl, HC11.out, HS11.out⟩
        case rest =>
          obtain ⟨xo, xc, rfl, rfl, hc11, hs11⟩ := hcut
          have HC11 := Lib.hid hc11; have HS11 := Lib.hid hs11
          have u1 := HCL.out wc hc11
          have hee : ((Er : Int) != Er) = false := by simp
          clear hc11 hs11 q1 q2 q3 q4
          go_wp2_with (first
            | (go_at_call 20; (with_reducible refine (HREF.out _ HC11.out).mono ?_); rintro e w12 ⟨yo, yc, rfl, hk1, hs1⟩; have HC12 := Lib.hid (HC11.out.trans hk1 (by simp)); have HS12 := Lib.hid hs1; have HSA := Lib.hid (show SeenV w12 (.slice xo nU xc) U from HS11.out.keep hk1); clear hk1 hs1)
            | (go_at_call 15; (with_reducible refine (same11_any _ _ U _ HSA.out HS12.out).mono ?_); rintro e w13 ⟨rfl, hk1⟩; have HC13 := Lib.hid (HC12.out.trans hk1 (by simp)); clear hk1)
            | fail)
          go_roundw
          case rel => exact ⟨jj + 1, hlt3, by go_num, HCR.out.trans HC13.out (by simp)⟩
          case measure => simp [intOf]; omega
      · have d3 : decide ((jj : Int) < 3) = false := by simp; omega
        go_wp2
        go_ret
        exact ⟨rfl, ((HKC.out.trans HCK.out (by simp)).trans HCR.out (by simp)).below (Nat.le_refl _) (by simp)⟩

end Go.Proofs.Ytegidbbigjhapaa
