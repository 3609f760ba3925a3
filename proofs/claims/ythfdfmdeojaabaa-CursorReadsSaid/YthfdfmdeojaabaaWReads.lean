/- The walk of the statement CursorReads: any bytes are read as the document says. -/
import Derived.Test.YthfdfmdeojaabaaPair
import Derived.Deep.DeepCutAuto
import Derived.Deep.CutBlock
namespace Go.Proofs.Ythfdfmdeojaabaa
open Go.RowKit
set_option linter.unusedVariables false

theorem Rd.keepDrewN {w : World} {r : Nat} {zs : List Int} {e : Int} {M : Nat} (h : Rd w r zs e M) (n : Nat) : Rd (w.drewN n) r zs e M := h.keep0 ((Chg.refl _ _).drewN n)

theorem tdiv4 {c : Int} (h : -9223372036854775808 ≤ c ∧ c ≤ 9223372036854775807) : -9223372036854775808 ≤ c.tdiv 4 ∧ c.tdiv 4 ≤ 9223372036854775807 := by
  rcases Int.le_total 0 c with h0 | h0
  · have e := Int.tdiv_eq_ediv_of_nonneg (b := 4) h0
    omega
  · have e : c.tdiv 4 = -((-c) / 4) := by
      have : c.tdiv 4 = -((-c).tdiv 4) := by rw [Int.neg_tdiv, Int.neg_neg]
      rw [this, Int.tdiv_eq_ediv_of_nonneg (by omega)]
    omega

theorem tdiv6 {c : Int} (h : -9223372036854775808 ≤ c ∧ c ≤ 9223372036854775807) : -9223372036854775808 ≤ c.tdiv 6 ∧ c.tdiv 6 ≤ 9223372036854775807 := by
  rcases Int.le_total 0 c with h0 | h0
  · have e := Int.tdiv_eq_ediv_of_nonneg (b := 6) h0
    omega
  · have e : c.tdiv 6 = -((-c) / 6) := by
      have : c.tdiv 6 = -((-c).tdiv 6) := by rw [Int.neg_tdiv, Int.neg_neg]
      rw [this, Int.tdiv_eq_ediv_of_nonneg (by omega)]
    omega

set_option maxRecDepth 100000 in
set_option maxHeartbeats 1000000 in
theorem walk_CursorReads (a0 : Option Addr) (len0 cap0 : Nat) (z0 : List Int) (a1 : Option Addr) (len1 cap1 : Nat) (z1 : List Int) (a2 : Option Addr) (len2 cap2 : Nat) (z2 : List Int) (a3 : Option Addr) (len3 cap3 : Nat) (z3 : List Int) (w : World)
    (w0 : IsRow .u8 w a0 len0 cap0 z0) (w1 : IsRow .i64 w a1 len1 cap1 z1) (w2 : IsRow .i64 w a2 len2 cap2 z2) (w3 : IsRow .i64 w a3 len3 cap3 z3) :
    Calls Try.prog 3 #[.slice a0 len0 cap0, .slice a1 len1 cap1, .slice a2 len2 cap2, .slice a3 len3 cap3] w fun e w' => e = .returned (.bool true) ∧ Below w.heap.size w w' := by
  obtain ⟨zs, hS, rfl, hwf, hzt⟩ := w0.bytes; clear hzt
  have W1 := Lib.hid w1; have W2 := Lib.hid w2; have W3 := Lib.hid w3
  have hl1 := w1.len; have hl2 := w2.len; have hl3 := w3.len
  unfold maxLen at hl1 hl2 hl3
  have HS := Lib.hid hS; clear hS
  clear w0 w1 w2 w3
  by_cases hlen : 200 < zs.length
  · go_enter Try.func3, Try.ntmps3
    go_wp2_with fail
    refine (known_any _).mono ?_
    rintro x w1 ⟨rfl, hk⟩
    have HK := Lib.hid hk; clear hk
    go_wp2
    go_ret
    exact ⟨rfl, HK.out.below (Nat.le_refl _) (by simp)⟩
  have hlz : zs.length ≤ 140737488355328 := by omega
  obtain ⟨i0, hi, hz0, hz1, hz2⟩ := info_u8
  have hone := Lib.hid (bys_one zs)
  have hm : zs.length ≤ maxLen := by unfold maxLen; omega
  go_enter Try.func3, Try.ntmps3
  go_wp2_with fail
  refine (known_any _).mono ?_
  rintro x w1 ⟨rfl, hk⟩
  have HK := Lib.hid hk; clear hk
  have HR := Lib.hid ((HS.out.keep HK.out).keep ((Chg.refl [] w1).alloc (.cells #[] 5)))
  have ho := Lib.hid (World.ownsRow_made (base := w1.heap.size) (e := 5) (size := 1) w1 #[] 0 (Nat.le_refl _) (by simp) rfl)
  go_wp2_with (at_builtin; refine wpList_append_reads _ rfl _ _ 22 22 rfl w1.heap.size 5 5 i0 (.int .u8 0) 1 Try.underlying22 Try.underlying22 hi hz0 hz1 hz2 rfl _ _ _ rfl ho.out _ (bys zs) rfl HR.out hone.out ?c1 ?c2 ?c3 ?_)
  case c1 => simpa using hm
  case c2 => simp; omega
  case c3 => simp
  intro v' w2 hown hgrow
  have hc2 := Lib.hid ((HK.out.alloc (.cells #[] 5)).grown hgrow (fun k hk => .inr (by have := HK.out.size; simp [Value.ownBlock] at hk; omega)))
  have HV := Lib.hid (reads_of_own hown).seen
  clear hown hgrow
  go_wp2_with fail
  refine (new_any _ zs _ hlz HV.out).mono ?_
  rintro y w3 ⟨r, rfl, g1, g2, g3⟩
  have C3 := Lib.hid (hc2.out.trans g1 (by simp)); clear g1
  have hr : w.heap.size ≤ r := Nat.le_trans hc2.out.size g2
  have R3 := Lib.hid g3; clear g3 g2
  go_wp2_with fail
  refine (xnew_any _ zs _ hlz (HS.out.keep C3.out)).mono ?_
  rintro y w4 ⟨x, rfl, g1, g2, g3⟩
  have C4 := Lib.hid (C3.out.trans g1 (by simp))
  have hx : w.heap.size ≤ x := Nat.le_trans C3.out.size g2
  have R4 := Lib.hid (R3.out.keep0 g1)
  have X4 := Lib.hid g3; clear g3 g2 g1
  go_wp2_with fail
  go_loopg [11] 40 (fun g s11 wx => ∃ i : Nat, i ≤ 40 ∧ g = 40 - i ∧ s11 = .int .i64 i ∧ Pair zs r x w3.heap.size w4.heap.size w wx)
  case atStart => exact ⟨0, by omega, rfl, rfl, 0, 0, by omega, C4.out, X4.out, by rw [restOf_ok]; exact R4.out⟩
  case round =>
    obtain ⟨i, hi40, hgk, rfl, hp⟩ := hrel
    have HP := Lib.hid hp; clear hp
    have HGK := Lib.hid hgk; clear hgk
    by_cases hi1 : i < len1
    · by_cases hi4 : i < 40
      · obtain ⟨g1, o1, rfl, hd1⟩ := W1.out.at (i := i) hi1
        have hPc : Chg [] w wr := by obtain ⟨a, e, _, hc, _⟩ := HP.out; exact hc
        have d1 := hPc.cell (hd1 i hi1) (by simp)
        have D1 := Lib.hid (hd1 i hi1)
        clear hd1
        have HPC := Lib.hid hPc; clear hPc
        have b1 := Lib.hid (wf_i64 (wf_getD W1.out.wf (i := i) (by omega)))
        have b1d := Lib.hid (tdiv4 b1.out)
        go_wp2_with fail
        have hq : wrap64 ((z1[i]?.getD 0).tdiv 4) = (z1.getD i 0).tdiv 4 := IntWalk.wrap64_in _ b1d.out
        rw [hq]
        clear hq
        refine (within_any _ 12 _ (by decide) (by decide) b1d.out.1 b1d.out.2).mono ?_
        rintro y w5 ⟨rfl, rfl⟩
        go_upto_region 10 with fail
        clear b1d d1
        go_cut [52] (fun s52 wx => ∃ b : Bool, s52 = .bool b ∧ (b = true → i < len2) ∧ wx = wr)
        case first =>
          by_cases hi2 : i < len2
          · obtain ⟨g2, o2, rfl, hd2⟩ := W2.out.at (i := i) hi2
            have d2 := HPC.out.cell (hd2 i hi2) (by simp)
            clear hd2
            have b2 := Lib.hid (wf_i64 (wf_getD W2.out.wf (i := i) (by omega)))
            go_wp2_with fail
            refine (within_any _ 9 _ (by decide) (by decide) b2.out.1 b2.out.2).mono ?_
            rintro y w5 ⟨rfl, rfl⟩
            go_wp2_with fail
            go_meet
            case rel => exact ⟨_, rfl, fun _ => hi2, rfl⟩
          · go_wp2_with fail
            go_meet
            case rel => exact ⟨_, rfl, fun h => by simp at h, rfl⟩
        case rest =>
          obtain ⟨b, rfl, hb, rfl⟩ := hcut
          go_upto_if 52 with fail
          go_cut [12] (fun s12 wx => (∃ n : Int, s12 = .int .i64 n) ∧ wx = wc)
          case first =>
            cases b
            · go_wp2_with fail
              go_meet
              case rel => exact ⟨⟨_, rfl⟩, rfl⟩
            · have hi2 := hb rfl
              obtain ⟨g2, o2, rfl, hd2⟩ := W2.out.at (i := i) hi2
              have d2 := HPC.out.cell (hd2 i hi2) (by simp)
              clear hd2
              go_wp2_with fail
              go_meet
              case rel => exact ⟨⟨_, rfl⟩, rfl⟩
          case rest =>
            obtain ⟨⟨n, rfl⟩, hwc⟩ := hcut
            subst hwc
            clear hb
            have d1 := HPC.out.cell D1.out (by simp)
            go_wp2_with fail
            refine (within_any _ 4 _ (by decide) (by decide) b1.out.1 b1.out.2).mono ?_
            rintro y w5 ⟨rfl, rfl⟩
            have ht0 : 0 ≤ z1[i]?.getD 0 % 4 := Int.emod_nonneg _ (by decide)
            have ht4 : z1[i]?.getD 0 % 4 < 4 := Int.emod_lt_of_pos _ (by decide)
            obtain ⟨t, ht⟩ : ∃ t, z1[i]?.getD 0 % 4 = t := ⟨_, rfl⟩
            rw [ht] at ht0 ht4
            have HT := Lib.hid ht; clear ht
            have hT : (z1.getD i 0) % 4 = t := HT.out
            rw [hT]
            clear hT
            go_upto_block 2 with fail
            clear d1
            go_cut [] (fun wx => Pair zs r x w3.heap.size w4.heap.size w wx)
            case first =>
              rcases (show t = 0 ∨ t = 1 ∨ t = 2 ∨ t = 3 by omega) with rfl | rfl | rfl | rfl
              · go_wp2_with fail
                refine (pair_get n _ hlz hwf hr hx HP.out).mono ?_
                rintro y w5 ⟨v, rfl, gm⟩
                have GM := Lib.hid gm; clear gm
                go_wp2_with fail
                refine GM.out.mono ?_
                rintro y w6 ⟨rfl, hp2⟩
                go_wp2_with fail
                go_meet
                case rel => exact hp2
              · go_wp2_with fail
                refine (pair_get n _ hlz hwf hr hx HP.out).mono ?_
                rintro y w5 ⟨v, rfl, gm⟩
                have GM := Lib.hid gm; clear gm
                go_wp2_with fail
                refine GM.out.mono ?_
                rintro y w6 ⟨rfl, hp2⟩
                go_wp2_with fail
                go_meet
                case rel => exact hp2
              · go_wp2_with fail
                go_region_with (first | (go_at_call 15; refine (pair_take n _ hlz hr hx (pair_drewN HP.out 1)).mono ?_; rintro y w5 ⟨v1, l, rfl, sv1, gm⟩; have cv1 := convs sv1; have GM := Lib.hid gm; clear gm sv1) | (go_at_call 16; refine GM.out.mono ?_; rintro y w6 ⟨v2, rfl, sv1, sv2, hp2⟩; have cv2 := convs sv1; have cv3 := convs sv2; have HP2 := Lib.hid hp2; clear hp2 sv1 sv2))
                all_goals (go_wp2_with fail; go_meet; exact HP2.out)
              · by_cases hi3 : i < len3
                · obtain ⟨g3, o3, rfl, hd3⟩ := W3.out.at (i := i) hi3
                  have d3 := HPC.out.cell (hd3 i hi3) (by simp)
                  have D3 := Lib.hid (hd3 i hi3)
                  clear hd3
                  have b3 := Lib.hid (wf_i64 (wf_getD W3.out.wf (i := i) (by omega)))
                  have b3d := Lib.hid (tdiv6 b3.out)
                  go_wp2_with fail
                  refine (within_any _ 6 _ (by decide) (by decide) b3.out.1 b3.out.2).mono ?_
                  rintro y w5 ⟨rfl, rfl⟩
                  by_cases h6 : z3.getD i 0 % 6 = 0
                  · rw [h6]
                    go_wp2_with fail
                    have hq : wrap64 ((z3[i]?.getD 0).tdiv 6) = (z3.getD i 0).tdiv 6 := IntWalk.wrap64_in _ b3d.out
                    rw [hq]
                    clear hq
                    refine (within_any _ 16 _ (by decide) (by decide) b3d.out.1 b3d.out.2).mono ?_
                    rintro y w5 ⟨rfl, rfl⟩
                    go_wp2_with fail
                    refine (pair_fail _ _ hr hx HP.out).mono ?_
                    rintro y w5 ⟨rfl, gm⟩
                    have GM := Lib.hid gm; clear gm d3
                    have d3 := GM.out.1.cell D3.out (by simp)
                    go_wp2_with fail
                    have hq : wrap64 ((z3[i]?.getD 0).tdiv 6) = (z3.getD i 0).tdiv 6 := IntWalk.wrap64_in _ b3d.out
                    rw [hq]
                    clear hq
                    refine (within_any _ 16 _ (by decide) (by decide) b3d.out.1 b3d.out.2).mono ?_
                    rintro y w6 ⟨rfl, rfl⟩
                    go_wp2_with fail
                    refine GM.out.2.mono ?_
                    rintro y w6 ⟨rfl, hp2⟩
                    go_wp2_with fail
                    go_meet
                    case rel => exact hp2
                  · have hb6 : (z3[i]?.getD 0 % 6 == 0) = false := by rw [beq_eq_false_iff_ne]; exact h6
                    have H6 := Lib.hid h6; clear h6
                    go_wp2_with fail
                    go_meet
                    case rel => exact HP.out
                · go_wp2_with fail
                  go_meet
                  case rel => exact HP.out
            case rest =>
              have hcut' := hcut
              obtain ⟨a, e, ha, hc, hX, hR⟩ := hcut
              have HC := Lib.hid hc; have HX := Lib.hid hX; have HRr := Lib.hid hR; have HCUT := Lib.hid hcut'
              clear hc hX hR hcut'
              have hle := restOf_le zs a e
              have hrz : (restOf zs a e).length ≤ 140737488355328 := by omega
              obtain ⟨L, hL⟩ : ∃ L, (if e = 0 then (zs.length : Int) - a else 0) = L := ⟨_, rfl⟩
              obtain ⟨E, hE⟩ : ∃ E, (if e = 0 ∧ a < zs.length then 9 else e) = E := ⟨_, rfl⟩
              have HL := Lib.hid ((restOf_len zs a e ha).trans hL)
              have HE := Lib.hid ((restOf_end zs a e ha).trans hE)
              have HL2 := Lib.hid hL; have HE2 := Lib.hid hE
              clear hle hL hE
              go_wp2_with fail
              refine (left_any r _ e _ hrz HRr.out).mono ?_
              rw [HL.out]
              rintro y w6 ⟨rfl, rfl⟩
              go_wp2_with fail
              refine (xleft_any x e _ zs a hlz HX.out).mono ?_
              rw [HL2.out]
              rintro y w6 ⟨rfl, nq, rfl⟩
              go_wp2_with fail
              refine (end_any r _ e _ hrz (HRr.out.keepDrewN nq)).mono ?_
              rw [HE.out]
              rintro y w6 ⟨rfl, rfl⟩
              go_wp2_with fail
              refine (xend_any x e _ zs a hlz (HX.out.keep0 ((Chg.refl _ _).drewN nq))).mono ?_
              rw [HE2.out]
              rintro y w6 ⟨rfl, nq2, rfl⟩
              go_wp2_with fail
              go_roundg (40 - (i + 1))
              case measure => rw [HGK.out]; omega
              case rel => exact ⟨i + 1, by omega, rfl, by go_num, pair_drewN HCUT.out (nq + nq2)⟩
      · have hPc : Chg [] w wr := by obtain ⟨a, e, _, hc, _⟩ := HP.out; exact hc
        have HPC := Lib.hid hPc; clear hPc
        go_wp2
        go_ret
        exact ⟨rfl, HPC.out.below (Nat.le_refl _) (by simp)⟩
    · have hPc : Chg [] w wr := by obtain ⟨a, e, _, hc, _⟩ := HP.out; exact hc
      have HPC := Lib.hid hPc; clear hPc
      go_wp2
      go_ret
      exact ⟨rfl, HPC.out.below (Nat.le_refl _) (by simp)⟩

end Go.Proofs.Ythfdfmdeojaabaa
