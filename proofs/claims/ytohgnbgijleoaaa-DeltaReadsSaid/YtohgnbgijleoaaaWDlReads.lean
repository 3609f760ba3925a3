/- The walk of the statement DeltaReads. -/
import Derived.Test.YtohgnbgijleoaaaDg
import Derived.Test.YtohgnbgijleoaaaDh
import Derived.Test.YtohgnbgijleoaaaDi
import Derived.Deep.LoopGhost
import Derived.Deep.DeepCutAuto
import Derived.Deep.RegionLaw
import Derived.Deep.RegionHeld3
import Derived.StillTailTactics
namespace Go.Proofs.Ytohgnbgijleoaaa
open Go.RowKit
set_option linter.unusedVariables false
set_option linter.unusedSimpArgs false

/-- What reads as bytes, few of them. -/
def Bs12 (w : World) (v : Value) : Prop := ∃ l : List Nat, Seen w v (nv .u8 l) ∧ (∀ x ∈ l, x < 2 ^ 8) ∧ l.length < 100000
theorem Bs12.keep {w w' : World} {v : Value} (h : Bs12 w v) (hc : Chg [] w w') : Bs12 w' v := by
  obtain ⟨l, h1, h2, h3⟩ := h
  exact ⟨l, h1.keep hc, h2, h3⟩

theorem DReadOut.seen {b : List Nat} {n : Int} {w : World} {e : Ending} {w' : World} (h : DReadOut b n w e w') : ∃ ao cap, e = .returned (.tuple #[.slice ao (readD b n).1.length cap, .int .i64 ((readD b n).2.1 : Nat), .int .i64 (readD b n).2.2]) ∧ Chg [] w w' ∧ SeenI w' (.slice ao (readD b n).1.length cap) (readD b n).1 := by
  obtain ⟨v, rfl, hc, ho⟩ := h
  obtain ⟨ao, cap, rfl⟩ := own_shape ho
  exact ⟨ao, cap, rfl, hc, ownI_seen ho rfl⟩

set_option maxRecDepth 100000 in
set_option maxHeartbeats 8000000 in
theorem walk_DeltaReads (a0 : Option Addr) (len0 cap0 : Nat) (z0 : List Int) (a1 : Int) (a2 : Option Addr) (len2 cap2 : Nat) (z2 : List Int) (a3 : Option Addr) (len3 cap3 : Nat) (z3 : List Int) (a4 : Int) (a5 : Option Addr) (len5 cap5 : Nat) (z5 : List Int) (w : World)
    (w0 : IsRow .i64 w a0 len0 cap0 z0) (w1 : (Lit.int .i64 a1).wf = true) (w2 : IsRow .i64 w a2 len2 cap2 z2) (w3 : IsRow .u8 w a3 len3 cap3 z3) (w4 : (Lit.int .i64 a4).wf = true) (w5 : IsRow .u8 w a5 len5 cap5 z5) :
    Calls Try.prog 4 #[.slice a0 len0 cap0, .int .i64 a1, .slice a2 len2 cap2, .slice a3 len3 cap3, .int .i64 a4, .slice a5 len5 cap5] w fun e w' => e = .returned (.bool true) ∧ Below w.heap.size w w' := by
  obtain ⟨BY, hBY, rfl, hBYl⟩ := w3.u8s
  obtain ⟨RW, hRW, rfl, hRWl⟩ := w5.u8s
  have hln := w0.len.2
  unfold maxLen at hln
  have hs0 := w0.seenT
  have HWF := Lib.hid w0.wf
  obtain ⟨l, hl⟩ : ∃ l, l = z0.take len0 := ⟨_, rfl⟩
  have HLN := Lib.hid (show l.length = len0 by rw [hl]; exact hs0.2)
  have HIN := Lib.hid (show ∀ x ∈ l, In64 x from fun x hx => wf_i64 (HWF.out x (List.mem_of_mem_take (by rw [← hl]; exact hx))))
  have HSI := Lib.hid (show SeenI w (.slice a0 len0 cap0) l by rw [hl]; exact hs0.1)
  have W1 := Lib.hid w1; have W2 := Lib.hid w2; have W4 := Lib.hid w4
  have HBY := Lib.hid hBY; have HBYL := Lib.hid hBYl; have HRW := Lib.hid hRW; have HRWL := Lib.hid hRWl
  have hm3 := w2.len
  have hm4 := w3.len.2
  unfold maxLen at hm3 hm4
  have HQ5 := Lib.hid (fun wx => within12 a1 5 5 wx rfl (by decide) (by decide) w1)
  obtain ⟨p5, hp5⟩ : ∃ K, K = (a1 % ((5 : Nat) : Int)).toNat := ⟨_, rfl⟩
  have hp54 : p5 < 5 := by rw [hp5]; exact within_lt a1 5 (by decide)
  rw [← hp5] at HQ5
  obtain ⟨i0, hi, hz0, hz1, hz2⟩ := info_u8
  have HK := Lib.hid (known12_any w)
  clear w0 w1 w2 w3 w4 w5 hs0 hl hBY hBYl hRW hRWl hp5 HWF
  by_cases hbig : 100 < len0
  · have d1 : decide ((100 : Int) < (len0 : Int)) = true := by simp; omega
    go_enter Try.func4, Try.ntmps4
    go_wp2_with (first
      | (go_at_call 8; (with_reducible refine HK.out.mono ?_); rintro e wA ⟨rfl, hk⟩; have HKA := Lib.hid hk; clear hk)
      | fail)
    go_ret
    exact ⟨rfl, HKA.out.below (Nat.le_refl _) (by simp)⟩
  have d1 : decide ((100 : Int) < (len0 : Int)) = false := by simp; omega
  by_cases hbig2 : 100 < RW.length
  · have d2 : decide ((100 : Int) < (RW.length : Int)) = true := by simp; omega
    go_enter Try.func4, Try.ntmps4
    go_wp2_with (first
      | (go_at_call 8; (with_reducible refine HK.out.mono ?_); rintro e wA ⟨rfl, hk⟩; have HKA := Lib.hid hk; clear hk)
      | fail)
    go_ret
    exact ⟨rfl, HKA.out.below (Nat.le_refl _) (by simp)⟩
  have d2 : decide ((100 : Int) < (RW.length : Int)) = false := by simp; omega
  obtain ⟨r5, hr5⟩ : ∃ r, r = RW.length := ⟨_, rfl⟩
  rw [← hr5] at HRW hbig2 d2 ⊢
  have HR5 := Lib.hid hr5
  obtain ⟨m, hm⟩ : ∃ m, m = len0 := ⟨_, rfl⟩
  rw [← hm] at HLN HSI hbig d1 hln ⊢
  have hLE := intsE_len l HIN.out
  have HPB8 := Lib.hid (intsE_bytes l)
  have HRE := Lib.hid (fun (wx : World) (hc : Chg [] w wx) => rints12_any (.slice a0 m cap0) l wx (HSI.out.keep hc) (by rw [HLN.out]; omega) HIN.out)
  rw [HLN.out] at hLE
  unfold Made at HRE
  obtain ⟨PB, hPB⟩ : ∃ E, E = intsE l := ⟨_, rfl⟩
  rw [← hPB] at HRE hLE HPB8
  obtain ⟨c, hcl⟩ : ∃ c, c = PB.length := ⟨_, rfl⟩
  have HCP := Lib.hid hcl
  rw [← hcl] at hLE HRE
  have hc8 : c ≤ 6240 := by omega
  have hone := Lib.hid (nv_one .u8 PB)
  clear hr5 hm hPB hcl hLE
  go_enter Try.func4, Try.ntmps4
  go_wp2_with (first
    | (go_at_call 8; (with_reducible refine HK.out.mono ?_); rintro e wA ⟨rfl, hk⟩; have HKA := Lib.hid hk; clear hk)
    | (go_at_call 11; (with_reducible refine (HRE.out wA HKA.out).mono ?_); rintro e w2 ⟨bv, rfl, hc, ho⟩; obtain ⟨bo, bc, rfl⟩ := own_shape ho; have HC2 := Lib.hid (HKA.out.trans hc (by simp)); have HB2 := Lib.hid (reads_of_own ho).seen; clear hc ho)
    | (at_builtin; refine wpList_append_reads _ rfl _ _ 23 23 rfl w2.heap.size 5 5 i0 (.int .u8 0) 1 Try.underlying23 Try.underlying23 hi hz0 hz1 hz2 rfl (.slice (some ⟨w2.heap.size, 0, none⟩) 0 0) 0 [] rfl (own_lit w2 _ _ rfl (Nat.le_refl _) 5 _ _ 0 1 rfl rfl (by decide)) _ (nv .u8 PB) rfl (HB2.out.keep ((Chg.refl [] w2).alloc _)) hone.out ?c1 ?c2 ?c3 ?_)
    | fail)
  case c1 => rw [nv_length, ← HCP.out]; unfold maxLen; omega
  case c2 => rw [nv_length, ← HCP.out]; omega
  case c3 => simp
  intro vd w3 hown hgrow
  rw [← HCP.out] at hown
  have HC3' : Hid (Chg [] w2 w3) := Lib.hid (((Chg.refl [] w2).alloc _).grown hgrow (fun k hk => .inr (by simp [Value.ownBlock] at hk; omega)))
  obtain ⟨ad, capd, rfl⟩ := own_shape hown
  have HD3 := Lib.hid (show w3.ownsRow w2.heap.size 5 1 (.slice ad c capd) c (nv .u8 PB) by simpa using hown)
  clear hown hgrow
  go_wp2
  go_loopw [15] (fun i wr => ∃ (j : Nat) (DL : List Nat), j ≤ len2 ∧ i = .int .i64 (j : Int) ∧ j ≤ 3 ∧ Chg [] w2 wr ∧ wr.ownsRow w2.heap.size 5 1 (.slice ad c capd) c (nv .u8 DL) ∧ DL.length = c ∧ ∀ x ∈ DL, x < 2 ^ 8) (fun i _ => 3 - (intOf i).toNat)
  case atStart => exact ⟨0, PB, Nat.zero_le _, rfl, by omega, HC3'.out, HD3.out, HCP.out.symm, HPB8.out⟩
  case round =>
    obtain ⟨j, DL, hj, rfl, hj3, hcj, hdj, hdl, hd8⟩ := hrel
    have HCJ := Lib.hid hcj; have HDJ := Lib.hid hdj; have HDL := Lib.hid hdl; have HD8 := Lib.hid hd8
    have HCW := Lib.hid (HC2.out.trans hcj (by simp))
    clear hcj hdj hdl hd8
    by_cases hgo : j < len2 ∧ j < BY.length ∧ j < 3 ∧ 0 < c
    · obtain ⟨g1, g2, g3, g4⟩ := hgo
      have d1 : decide (j < len2) = true := by simpa using g1
      have d2 : decide (j < BY.length) = true := by simpa using g2
      obtain ⟨gd, rfl, hgd, -, -, -⟩ := own_ptr HDJ.out g4
      obtain ⟨ga, oa, rfl, hca⟩ := W2.out.at g1
      have ca := HCW.out.cell (hca j g1) (by simp)
      have bw := Lib.hid (wf_getD (zs := z2) (i := j) (k := .i64) (by
        rcases W2.out with ⟨h, _⟩ | ⟨x, h, h1, h2, h3, h4, h5⟩
        · cases h
        · exact h5) (by omega))
      clear hca
      obtain ⟨x, rfl, hx0⟩ := (HBY.out.keep HCW.out).at rfl (by omega)
      have hx := hx0 j g2
      clear hx0
      have hy8 : BY.getD j 0 < 2 ^ 8 := HBYL.out _ (getD_mem g2)
      obtain ⟨y, hy⟩ : ∃ y, y = BY.getD j 0 := ⟨_, rfl⟩
      rw [← hy] at hx hy8
      obtain ⟨q, hq⟩ : ∃ q, q = (z2.getD j 0 % (c : Nat)).toNat := ⟨_, rfl⟩
      have hqc : q < c := by rw [hq]; exact within_lt _ c g4
      have HQq := Lib.hid hq
      have hd := own_cell HDJ.out HDL.out q hqc
      have hf := HDJ.out.frozenAt q
      have ht8 : DL.getD q 0 < 2 ^ 8 := HD8.out _ (getD_mem (by rw [HDL.out]; exact hqc))
      obtain ⟨t, ht⟩ : ∃ t, t = DL.getD q 0 := ⟨_, rfl⟩
      rw [← ht] at hd ht8
      clear hy ht hq
      obtain ⟨av, hav⟩ : ∃ av, av = z2.getD j 0 := ⟨_, rfl⟩
      rw [← hav] at ca bw HQq
      clear hav
      go_wp2
      go_still_tail 16, (by kernel_rfl)
      still_call ((within12_nat av c _ g4 (by omega) bw.out).mono fun e w'' h => ⟨h.1, h.2.symm⟩)
      rw [← HQq.out]
      repeat still_step
      refine wpStill_nil ?_
      go_wp2
      have hv : ((t : Int) + y) % 256 = (((t + y) % 256 : Nat) : Int) := by omega
      have hst := HDJ.out.stored q (.int .u8 (((t + y) % 256 : Nat) : Int))
      rw [nv_set] at hst
      have hcc := (HCJ.out.setCell (p := ⟨gd, q, none⟩) (.inr hgd) (.int .u8 (((t + y) % 256 : Nat) : Int))).drew
      rw [hv]
      go_roundw
      case rel => exact ⟨j + 1, DL.set q ((t + y) % 256), g1, by go_num, by omega, hcc, hst.1, by rw [List.length_set]; exact HDL.out, fun x hx => by
        rcases List.mem_or_eq_of_mem_set hx with h | h
        · exact HD8.out x h
        · omega⟩
      case measure => simp [intOf]; omega
    · go_upto_region 8 with fail
      go_cut [59] (fun s65 wx => s65 = .bool false ∧ wx = wr)
      case first =>
        by_cases g1 : j < len2
        · have d1 : decide (j < len2) = true := by simpa using g1
          by_cases g2 : j < BY.length
          · have d2 : decide (j < BY.length) = true := by simpa using g2
            by_cases g3 : j < 3
            · have d4 : decide (0 < c) = false := by simp; omega
              clear hgo
              go_wp2_with fail
              go_meet
              case rel => exact ⟨rfl, rfl⟩
            · go_wp2_with fail
              go_meet
              case rel => exact ⟨rfl, rfl⟩
          · have d2 : decide (j < BY.length) = false := by simpa using g2
            go_wp2_with fail
            go_meet
            case rel => exact ⟨rfl, rfl⟩
        · have d1 : decide (j < len2) = false := by simpa using g1
          go_wp2_with fail
          go_meet
          case rel => exact ⟨rfl, rfl⟩
      case rest =>
        obtain ⟨rfl, hwx⟩ := hcut
        subst hwx
        go_upto_if 80 with fail
        go_cut [14] (fun s17 wx => (∃ ao n cap, s17 = .slice ao n cap ∧ Bs12 wc (.slice ao n cap)) ∧ wx = wc)
        case first =>
          have hd481 : DL.length < 100000 := by rw [HDL.out]; omega
          by_cases h3 : a4.tmod 3 = 1
          · obtain ⟨td1, td2, td3⟩ := tdiv_wf a4 3 (by decide) W4.out
            have TD := Lib.hid td1
            have hq : wrap64 (a4.tdiv 3) = a4.tdiv 3 := IntWalk.wrap64_in _ ⟨td2, td3⟩
            clear td1 td2 td3
            obtain ⟨mm, hmm⟩ : ∃ m, m = (a4.tdiv 3 % (c + 1 : Nat)).toNat := ⟨_, rfl⟩
            have hmc : mm < c + 1 := by rw [hmm]; exact within_lt _ (c + 1) (by omega)
            have HMm := Lib.hid hmm; clear hmm
            have hcc := own_room HDJ.out
            have HFR := Lib.hid ((reads_of_own HDJ.out).seen.front HDL.out mm (by omega))
            go_wp2_with fail
            refine (within12 (a4.tdiv 3) ((c : Int) + 1) (c + 1) _ (by omega) (by omega) (by omega) TD.out).mono ?_
            rintro x w5 ⟨rfl, rfl⟩
            rw [← HMm.out]
            go_wp2_with fail
            go_meet
            case rel => exact ⟨⟨_, mm, capd, rfl, DL.take mm, HFR.out, fun x hx => HD8.out x (List.mem_of_mem_take hx), by simp; omega⟩, rfl⟩
          · go_wp2_with fail
            go_meet
            case rel => exact ⟨⟨ad, c, capd, rfl, DL, (reads_of_own HDJ.out).seen, HD8.out, hd481⟩, rfl⟩
        case rest =>
          obtain ⟨⟨ao, n, cap, rfl, hbs⟩, hwc⟩ := hcut
          subst hwc
          have HBS := Lib.hid hbs; clear hbs
          have HB5 : Hid (Seen wc (.slice bo c bc) (nv .u8 PB)) := Lib.hid (HB2.out.keep HCJ.out)
          clear HDJ HDL HD8
          have HX0 : Hid (Bs12 wc (.slice bo c bc)) := Lib.hid ⟨PB, HB5.out, HPB8.out, by rw [← HCP.out]; omega⟩
          have HX1 := HBS
          have HX2 : Hid (Bs12 wc (.slice a5 r5 cap5)) := Lib.hid ⟨RW, HRW.out.keep HCW.out, HRWL.out, by rw [← HR5.out]; omega⟩
          have HC7' : Hid (Chg [] wc wc) := Lib.hid (Chg.refl _ _)
          go_upto_region 14 with fail
          obtain ⟨w8, hw8⟩ : ∃ w8, w8 = wc.alloc (.cells #[.slice bo c bc, .slice ao n cap, .slice a5 r5 cap5] 23) := ⟨_, rfl⟩
          rw [← hw8]
          obtain ⟨gr, hgr⟩ : ∃ g, g = wc.heap.size := ⟨_, rfl⟩
          rw [← hgr]
          have HBLK : Hid (w8.heap[gr]? = some (.cells #[.slice bo c bc, .slice ao n cap, .slice a5 r5 cap5] 23 (0, 0))) := Lib.hid (by rw [hw8, hgr]; exact heap_alloc_new wc _)
          have HA7 : Hid (Chg [] wc w8) := Lib.hid (by rw [hw8]; exact (Chg.refl [] wc).alloc _)
          clear hw8 hgr
          go_upto_region 15 with (first
            | (go_at_call 13; (with_reducible refine (HQ5.out _).mono ?_); rintro e wz ⟨rfl, rfl⟩)
            | fail)
          obtain ⟨w9, hw9⟩ : ∃ w9, w9 = w8.alloc (.cells #[.int .i64 (m : Int), .int .i64 ((m : Int) + (p5 : Int) - 2), .int .i64 a1] 3) := ⟨_, rfl⟩
          rw [← hw9]
          obtain ⟨gk, hgk⟩ : ∃ g, g = w8.heap.size := ⟨_, rfl⟩
          try rw [← hgk]
          have HKB : Hid (w9.heap[gk]? = some (.cells #[.int .i64 (m : Int), .int .i64 ((m : Int) + (p5 : Int) - 2), .int .i64 a1] 3 (0, 0))) := Lib.hid (by rw [hw9, hgk]; exact heap_alloc_new w8 _)
          have HA8 : Hid (Chg [] w8 w9) := Lib.hid (by rw [hw9]; exact (Chg.refl [] w8).alloc _)
          have HA9 := Lib.hid (HA7.out.trans HA8.out (by simp))
          have HRB := Lib.hid (HA8.out.heap HBLK.out (by simp))
          clear hw9 hgk
          have HROW := Lib.hid (show ∀ wx, Chg [] w9 wx → ∀ j, j < 3 → ∃ aj nj cj, wx.cell? ⟨gr, j, none⟩ = some (.slice aj nj cj) ∧ Bs12 wx (.slice aj nj cj) from fun wx hcx j hj => by
            have hk := hcx.heap HRB.out (by simp)
            have hc7 := HA9.out.trans hcx (by simp)
            rcases (show j = 0 ∨ j = 1 ∨ j = 2 by omega) with rfl | rfl | rfl
            · exact ⟨_, _, _, by simp [World.cell?, hk], HX0.out.keep hc7⟩
            · exact ⟨_, _, _, by simp [World.cell?, hk], HX1.out.keep hc7⟩
            · exact ⟨_, _, _, by simp [World.cell?, hk], HX2.out.keep hc7⟩)
          have HNUM := Lib.hid (show ∀ wx, Chg [] w9 wx → ∀ j, j < 3 → ∃ x, wx.cell? ⟨gk, j, none⟩ = some (.int .i64 x) ∧ (Lit.int .i64 x).wf = true from fun wx hcx j hj => by
            have hk := hcx.heap HKB.out (by simp)
            rcases (show j = 0 ∨ j = 1 ∨ j = 2 by omega) with rfl | rfl | rfl
            · exact ⟨(m : Int), by simp [World.cell?, hk], wf64_of _ (by omega)⟩
            · exact ⟨(m : Int) + (p5 : Int) - 2, by simp [World.cell?, hk], wf64_of _ (by omega)⟩
            · exact ⟨a1, by simp [World.cell?, hk], W1.out⟩)
          have HCB := Lib.hid (HCW.out.trans HA9.out (by simp))
          clear HX0 HX1 HX2 HBS HB5 HCJ HBLK
          go_wp2
          go_loopw [18] (fun i wx => ∃ j : Nat, j ≤ 3 ∧ i = .int .i64 (j : Int) ∧ Chg [] w9 wx) (fun i _ => 3 - (intOf i).toNat)
          case atStart => exact ⟨0, by omega, rfl, Chg.refl _ _⟩
          case round =>
            obtain ⟨j4, hj4, rfl, hcx⟩ := hrel
            have HCX := Lib.hid hcx; clear hcx
            by_cases hlt4 : j4 < 3
            · have d4 : decide ((j4 : Int) < 3) = true := by simp; omega
              go_wp2
              go_loopw [19] (fun i wx => ∃ j : Nat, j ≤ 3 ∧ i = .int .i64 (j : Int) ∧ Chg [] w9 wx) (fun i _ => 3 - (intOf i).toNat)
              case atStart => exact ⟨0, by omega, rfl, HCX.out⟩
              case round =>
                obtain ⟨jj, hjj, rfl, hcx⟩ := hrel
                have HCY := Lib.hid hcx; clear hcx
                by_cases hlt3 : jj < 3
                · have d3 : decide ((jj : Int) < 3) = true := by simp; omega
                  obtain ⟨aj, nj, cj, hcell, RL, hRL, hRL8, hRLl⟩ := HROW.out wr HCY.out j4 hlt4
                  obtain ⟨num, hnum, hnumw⟩ := HNUM.out wr HCY.out jj hlt3
                  have hnj : nj = RL.length := by
                    obtain ⟨_, _, he, _⟩ := hRL.shape
                    injection he with e1 e2 e3
                    rw [e2, nv_length]
                  have HRL := Lib.hid hRL; have HRL8 := Lib.hid hRL8; have HNJ := Lib.hid hnj
                  have honeL := Lib.hid (nv_one .u8 RL)
                  have hxi : (j4 : Int) < 3 := by omega
                  have hxk : (jj : Int) < 3 := by omega
                  obtain ⟨D, hD⟩ : ∃ D, D = readD RL num := ⟨_, rfl⟩
                  have HDEC := Lib.hid (show ∀ wx bv, Seen wx bv (nv .u8 RL) → Calls Try.prog 10 #[bv, .int .i64 num] wx fun e w' => ∃ ao cap, e = .returned (.tuple #[.slice ao D.1.length cap, .int .i64 (D.2.1 : Nat), .int .i64 D.2.2]) ∧ Chg [] wx w' ∧ SeenI w' (.slice ao D.1.length cap) D.1 from fun wx bv hs => by
                    refine (dread_any bv RL num wx hs HRL8.out (by omega)).mono ?_
                    intro e w' h
                    have h := h.seen
                    rw [← hD] at h
                    exact h)
                  have HREF := Lib.hid (show ∀ wx bv, Seen wx bv (nv .u8 RL) → Calls Try.prog 14 #[bv, .int .i64 num] wx fun e w' => ∃ ao cap, e = .returned (.tuple #[.slice ao D.1.length cap, .int .i64 (D.2.1 : Nat), .int .i64 D.2.2]) ∧ Chg [] wx w' ∧ SeenI w' (.slice ao D.1.length cap) D.1 from fun wx bv hs => by
                    refine (rread12_any bv RL num wx hs HRL8.out (by omega)).mono ?_
                    intro e w' h
                    have h := h.seen
                    rw [← hD] at h
                    exact h)
                  obtain ⟨U, Us, Er⟩ := D
                  obtain ⟨nU, hnU⟩ : ∃ n, n = U.length := ⟨_, rfl⟩
                  simp only at HDEC HREF
                  rw [← hnU] at HDEC HREF
                  have HNU := Lib.hid hnU
                  have HCL := Lib.hid (show ∀ wx, Chg [] wr wx → wx.cell? ⟨gr, j4, none⟩ = some (.slice aj nj cj) ∧ wx.cell? ⟨gk, jj, none⟩ = some (.int .i64 num) from fun wx h => ⟨h.cell hcell (by simp), h.cell hnum (by simp)⟩)
                  obtain ⟨q1, q2⟩ := HCL.out wr.drew (Chg.refl _ _).drew
                  obtain ⟨q3, q4⟩ := HCL.out (wr.alloc (.cells #[] 5)) ((Chg.refl _ _).alloc _)
                  obtain ⟨q5, q6⟩ := HCL.out (wr.alloc (.cells #[] 5)).drew ((Chg.refl _ _).alloc _).drew
                  obtain ⟨q7, q8⟩ := HCL.out (wr.drew.alloc (.cells #[] 5)) ((Chg.refl _ _).drew.alloc _)
                  have HOL := Lib.hid (show (wr.drew.alloc (.cells #[] 5)).ownsRow wr.heap.size 5 1 (.slice (some ⟨wr.heap.size, 0, none⟩) 0 0) 0 [] from own_lit wr.drew _ _ rfl (Nat.le_refl _) 5 _ _ 0 1 rfl rfl (by decide))
                  have HSL := Lib.hid (HRL.out.keep ((Chg.refl [] wr).drew.alloc (.cells #[] 5)))
                  have HM1 := Lib.hid (show 0 + (nv .u8 RL).length ≤ maxLen by rw [nv_length]; unfold maxLen; omega)
                  have HM2 := Lib.hid (show (0 + (nv .u8 RL).length) * 1 ≤ 140737488355328 by rw [nv_length]; omega)
                  have HSB := Lib.hid (show wr.heap.size ≤ (wr.drew.alloc (.cells #[] 5)).heap.size from ((Chg.refl [] wr).drew.alloc (.cells #[] 5)).size)
                  clear hD hRL hRL8 hnj hnU hRLl hnumw
                  go_upto_region 21 with fail
                  go_cut [20, 21, 22] (fun s20 s21 s22 wx => ∃ xo1 xc1, s20 = .slice xo1 nU xc1 ∧ s21 = .int .i64 (Us : Int) ∧ s22 = .int .i64 Er ∧ Chg [] wr wx ∧ SeenI wx (.slice xo1 nU xc1) U)
                  case first =>
                    go_region_held3 (fun w' => w'.cell? ⟨gr, j4, none⟩ = some (.slice aj nj cj) ∧ w'.cell? ⟨gk, jj, none⟩ = some (.int .i64 num)) (first | exact ⟨q1, q2⟩ | exact ⟨q3, q4⟩ | exact ⟨q5, q6⟩ | exact ⟨q7, q8⟩ | exact ⟨s1, s2⟩ | exact ⟨u1, u2⟩) (first
                      | (refine step_append_reads (by rfl) (.tmp 112) (.tmp 116) 23 23 (by rfl) wr.heap.size 5 5 i0 (.int .u8 0) 1 Try.underlying23 Try.underlying23 hi hz0 hz1 hz2 (by rfl) (.slice (some ⟨wr.heap.size, 0, none⟩) 0 0) 0 [] (by rfl) HOL.out (.slice aj nj cj) (nv .u8 RL) (by rfl) HSL.out honeL.out HM1.out HM2.out HSB.out ?_; intro v10 w10 hown hgrow; rw [nv_length, Nat.zero_add, List.nil_append] at hown; obtain ⟨va, vc, rfl⟩ := own_shape hown; have HC10 := Lib.hid (show Chg [] wr w10 from (((Chg.refl [] wr).drew.alloc (.cells #[] 5)).grown hgrow (fun g hg => .inr (HOL.out.lt g hg).1))); have HS10 := Lib.hid (reads_of_own hown).seen; obtain ⟨s1, s2⟩ := HCL.out w10 HC10.out; clear hown hgrow)
                      | (go_simp; go_at_call 10; (with_reducible refine (HDEC.out _ _ HS10.out).mono ?_); rintro e w11 ⟨xo1, xc1, rfl, hk1, hs1⟩; have HC11 := Lib.hid (HC10.out.trans hk1 (by simp)); have HS11 := Lib.hid hs1; obtain ⟨u1, u2⟩ := HCL.out w11 HC11.out; clear hk1 hs1))
                    all_goals
                      try go_wp2
                      go_meet
                      case rel => exact ⟨xo1, xc1, rfl, rfl, rfl, HC11.out, HS11.out⟩
                  case rest =>
                    obtain ⟨xo1, xc1, rfl, rfl, rfl, hc11, hs11⟩ := hcut
                    have HC11 := Lib.hid hc11; have HS11 := Lib.hid hs11
                    obtain ⟨u1, u2⟩ := HCL.out wc hc11
                    obtain ⟨u3, u4⟩ := HCL.out wc.drew hc11.drew
                    have HRS := Lib.hid (HRL.out.keep hc11.drew)
                    clear hc11 hs11 q1 q2 q3 q4 q5 q6 q7 q8
                    go_upto_region 22 with fail
                    go_cut [23, 24, 25] (fun s23 s24 s25 wx => ∃ yo1 yc1, s23 = .slice yo1 nU yc1 ∧ s24 = .int .i64 (Us : Int) ∧ s25 = .int .i64 Er ∧ Chg [] wc wx ∧ SeenI wx (.slice yo1 nU yc1) U)
                    case first =>
                      go_region_held3 (fun w' => w'.cell? ⟨gr, j4, none⟩ = some (.slice aj nj cj) ∧ w'.cell? ⟨gk, jj, none⟩ = some (.int .i64 num)) (first | exact ⟨u3, u4⟩ | exact ⟨u1, u2⟩ | exact HCL.out _ HCZ.out) (first
                        | (go_simp; go_at_call 14; (with_reducible refine (HREF.out _ _ HRS.out).mono ?_); rintro e w12 ⟨yo1, yc1, rfl, hk1, hs1⟩; have HC12 := Lib.hid (((Chg.refl [] wc).drew).trans hk1 (by simp)); have HCZ := Lib.hid (HC11.out.trans HC12.out (by simp)); have HS12 := Lib.hid hs1; clear hk1 hs1))
                      all_goals
                        try go_wp2
                        go_meet
                        case rel => exact ⟨yo1, yc1, rfl, rfl, rfl, HC12.out, HS12.out⟩
                    case rest =>
                      obtain ⟨yo1, yc1, rfl, rfl, rfl, hc12, hs12⟩ := hcut
                      have HC12 := Lib.hid hc12
                      have HSM := Lib.hid (ints12_any _ _ U _ (HS11.out.keep hc12) hs12)
                      have hee : ((Er : Int) != Er) = false := by simp
                      have huu : ((Us : Int) != (Us : Int)) = false := by simp
                      clear hc12 hs12
                      go_wp2_with (first
                        | (go_at_call 12; (with_reducible refine HSM.out.mono ?_); rintro e w13 ⟨rfl, hk1⟩; have HC13 := Lib.hid (HC12.out.trans hk1 (by simp)); clear hk1)
                        | fail)
                      go_roundw
                      case rel => exact ⟨jj + 1, hlt3, by go_num, HCY.out.trans (HC11.out.trans HC13.out (by simp)) (by simp)⟩
                      case measure => simp [intOf]; omega
                · have d3 : decide ((jj : Int) < 3) = false := by simp; omega
                  go_wp2
                  go_roundw
                  case rel => exact ⟨j4 + 1, hlt4, by go_num, HCY.out⟩
                  case measure => simp [intOf]; omega
            · have d4 : decide ((j4 : Int) < 3) = false := by simp; omega
              go_wp2
              go_ret
              exact ⟨rfl, (HCB.out.trans HCX.out (by simp)).below (Nat.le_refl _) (by simp)⟩

end Go.Proofs.Ytohgnbgijleoaaa
