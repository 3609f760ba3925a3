/- The walk of the statement LevelReads. (gen_lr.py writes it.) -/
import Derived.Test.YtlhdicbhanncnaaEm
import Derived.Test.YtlhdicbhanncnaaKp
import Derived.Test.YtlhdicbhanncnaaKt
import Derived.Deep.LoopGhost
import Derived.Deep.DeepCutAuto
import Derived.Deep.RegionLaw
import Derived.Deep.RegionHeld3
namespace Go.Proofs.Ytlhdicbhanncnaa
open Go.RowKit
set_option linter.unusedVariables false
set_option linter.unusedSimpArgs false

/-- A row of bytes, not too long. -/
def BsL (w : World) (v : Value) : Prop := ∃ l : List Nat, Seen w v (nv .u8 l) ∧ (∀ x ∈ l, x < 2 ^ 8) ∧ l.length < 100000
theorem BsL.keep {w w' : World} {v : Value} (h : BsL w v) (hc : Chg [] w w') : BsL w' v := by
  obtain ⟨l, h1, h2, h3⟩ := h
  exact ⟨l, h1.keep hc, h2, h3⟩

theorem w10' (a n : Int) (N : Nat) (wx : World) (hN : (N : Int) = n) (hn : 1 ≤ N) (hn2 : N ≤ 4611686018427387904) (h : (Lit.int .i64 a).wf = true) :
    Calls Try.prog 5 #[.int .i64 a, .int .i64 n] wx fun e w' => e = .returned (.int .i64 (((a % (N : Int)).toNat : Nat) : Int)) ∧ wx = w' := by
  rw [← hN]
  exact w10_nat a N wx hn hn2 h

/-- What both Decodes answer, by what is seen. -/
theorem dec_seen {b : List Nat} {n wd : Int} {w : World} {e : Ending} {w' : World} (h : DecOut b n wd w e w') : ∃ ao cap, e = .returned (.tuple #[.slice ao (decA b n wd).2.length cap, .int .i64 ((decA b n wd).1 : Int)]) ∧ Chg [] w w' ∧ Seen w' (.slice ao (decA b n wd).2.length cap) (nv .i64 (decA b n wd).2) := by
  obtain ⟨v, rfl, hc, ho⟩ := h
  obtain ⟨ao, cap, rfl⟩ := own_shape ho
  exact ⟨ao, cap, rfl, hc, (reads_of_own ho).seen⟩

theorem decA_short (b : List Nat) (n w : Int) : (decA b n w).2.length ≤ 4000 := by
  unfold decA
  split
  · simp
  · rename_i h1
    split
    · split
      · simp; omega
      · simp
    · split
      · rename_i h3
        rw [decL_len _ _ _ h3]; omega
      · simp

set_option maxRecDepth 100000 in
set_option maxHeartbeats 8000000 in
theorem walk_LevelReads (a0 : Option Addr) (len0 cap0 : Nat) (z0 : List Int) (a1 a2 : Int) (a3 : Option Addr) (len3 cap3 : Nat) (z3 : List Int) (a4 : Option Addr) (len4 cap4 : Nat) (z4 : List Int) (a5 : Int) (a6 : Option Addr) (len6 cap6 : Nat) (z6 : List Int) (w : World)
    (w0 : IsRow .i64 w a0 len0 cap0 z0) (w1 : (Lit.int .i64 a1).wf = true) (w2 : (Lit.int .i64 a2).wf = true) (w3 : IsRow .i64 w a3 len3 cap3 z3) (w4 : IsRow .u8 w a4 len4 cap4 z4) (w5 : (Lit.int .i64 a5).wf = true) (w6 : IsRow .u8 w a6 len6 cap6 z6) :
    Calls Try.prog 3 #[.slice a0 len0 cap0, .int .i64 a1, .int .i64 a2, .slice a3 len3 cap3, .slice a4 len4 cap4, .int .i64 a5, .slice a6 len6 cap6] w fun e w' => e = .returned (.bool true) ∧ Below w.heap.size w w' := by
  obtain ⟨BY, hBY, rfl, hBYl⟩ := w4.u8s
  obtain ⟨RW, hRW, rfl, hRWl⟩ := w6.u8s
  obtain ⟨ns, hNS, hnsl, hnsw⟩ := w0.seenI
  have W1 := Lib.hid w1; have W2 := Lib.hid w2
  have W3 := Lib.hid w3; have W5 := Lib.hid w5
  have HBY := Lib.hid hBY; have HBYL := Lib.hid hBYl; have HRW := Lib.hid hRW; have HRWL := Lib.hid hRWl
  have HNS := Lib.hid hNS; have HNW := Lib.hid hnsw
  have hm3 := w3.len
  have hm4 := w4.len.2
  unfold maxLen at hm3 hm4
  have HQ := Lib.hid (fun wx => w10' a1 17 17 wx rfl (by decide) (by decide) w1)
  obtain ⟨W, hW⟩ : ∃ W, W = (a1 % ((17 : Nat) : Int)).toNat := ⟨_, rfl⟩
  have hW17 : W < 17 := by rw [hW]; exact within_lt a1 17 (by decide)
  rw [← hW] at HQ
  have HQ9 := Lib.hid (fun wx => w10' a2 9 9 wx rfl (by decide) (by decide) w2)
  obtain ⟨K9, hK9⟩ : ∃ K9, K9 = (a2 % ((9 : Nat) : Int)).toNat := ⟨_, rfl⟩
  have hK99 : K9 < 9 := by rw [hK9]; exact within_lt a2 9 (by decide)
  rw [← hK9] at HQ9
  obtain ⟨i0, hi, hz0, hz1, hz2⟩ := info_u8
  clear w0 w1 w2 w3 w4 w5 w6 hBY hBYl hRW hRWl hW hNS hnsl hnsw hK9
  by_cases hlen6 : 100 < RW.length
  · go_enter Try.func3, Try.ntmps3
    go_wp2_with fail
    refine (known10_any _).mono ?_
    rintro x w1 ⟨rfl, hk⟩
    have HC := Lib.hid hk; clear hk
    go_wp2
    go_ret
    exact ⟨rfl, HC.out.below (Nat.le_refl _) (by simp)⟩
  go_enter Try.func3, Try.ntmps3
  go_wp2_with fail
  refine (known10_any _).mono ?_
  rintro e wA ⟨rfl, hk⟩
  have HKA := Lib.hid hk
  clear hk
  go_wp2_with fail
  refine (HQ.out _).mono ?_
  rintro e wB ⟨rfl, rfl⟩
  go_wp2_with fail
  refine (levels_any _ ns W wA (HNS.out.keep HKA.out) (by omega) HNW.out).mono ?_
  rintro e wB ⟨x, L, rfl, hL3, hLx, hc, ho⟩
  obtain ⟨xo, xc, rfl⟩ := own_shape ho
  obtain ⟨m, hm⟩ : ∃ m, m = L.length := ⟨_, rfl⟩
  rw [← hm] at ho hL3 ⊢
  have HM := Lib.hid hm
  have HKB := Lib.hid (HKA.out.trans hc (by simp))
  have HX := Lib.hid (reads_of_own ho).seen
  have HRE := Lib.hid (rencodeZ_any _ L W wB HX.out (by omega) hLx (by rw [← hm]; omega))
  have hLE := encZ_len W (by omega) L (by rw [← hm]; omega)
  have HPB8 := Lib.hid (encZ_bytes W L)
  obtain ⟨PB, hPB⟩ : ∃ E, E = encZ W L := ⟨_, rfl⟩
  rw [← hPB] at HRE hLE HPB8
  obtain ⟨c, hcl⟩ : ∃ c, c = PB.length := ⟨_, rfl⟩
  have HCP := Lib.hid hcl
  rw [← hcl, ← hm] at hLE
  have hc8 : c ≤ 20000 := by omega
  clear hc ho hm HQ HKA HNS HNW hPB hcl hLE HX hLx
  go_wp2_with fail
  refine HRE.out.mono ?_
  rintro e w2 ⟨bv, rfl, hc, ho⟩
  rw [← HCP.out] at ho
  obtain ⟨bo, bc, rfl⟩ := own_shape ho
  have HC2 := Lib.hid (HKB.out.trans hc (by simp))
  have HB2 := Lib.hid (reads_of_own ho).seen
  have hone := Lib.hid (nv_one .u8 PB)
  clear hc ho HRE
  go_wp2_with (at_builtin; refine wpList_append_reads _ rfl _ _ 23 23 rfl w2.heap.size 5 5 i0 (.int .u8 0) 1 Try.underlying23 Try.underlying23 hi hz0 hz1 hz2 rfl (.slice (some ⟨w2.heap.size, 0, none⟩) 0 0) 0 [] rfl (own_lit w2 _ _ rfl (Nat.le_refl _) 5 _ _ 0 1 rfl rfl (by decide)) _ (nv .u8 PB) rfl (HB2.out.keep ((Chg.refl [] w2).alloc _)) hone.out ?c1 ?c2 ?c3 ?_)
  case c1 => rw [nv_length, ← HCP.out]; unfold maxLen; omega
  case c2 => rw [nv_length, ← HCP.out]; omega
  case c3 => simp
  intro vd w3 hown hgrow
  rw [← HCP.out] at hown
  have HC3' : Hid (Chg [] w2 w3) := Lib.hid (((Chg.refl [] w2).alloc _).grown hgrow (fun k hk => .inr (by simp [Value.ownBlock] at hk; omega)))
  obtain ⟨ad, capd, rfl⟩ := own_shape hown
  have HD3 := Lib.hid (show w3.ownsRow w2.heap.size 5 1 (.slice ad c capd) c (nv .u8 PB) by simpa using hown)
  clear hown hgrow
  go_wp2
  go_loopw [19] (fun i wr => ∃ (j : Nat) (DL : List Nat), j ≤ len3 ∧ i = .int .i64 (j : Int) ∧ j ≤ 3 ∧ Chg [] w2 wr ∧ wr.ownsRow w2.heap.size 5 1 (.slice ad c capd) c (nv .u8 DL) ∧ DL.length = c ∧ ∀ x ∈ DL, x < 2 ^ 8) (fun i _ => 3 - (intOf i).toNat)
  case atStart => exact ⟨0, PB, Nat.zero_le _, rfl, by omega, HC3'.out, HD3.out, HCP.out.symm, HPB8.out⟩
  case round =>
    obtain ⟨j, DL, hj, rfl, hj3, hcj, hdj, hdl, hd8⟩ := hrel
    have HCJ := Lib.hid hcj; have HDJ := Lib.hid hdj; have HDL := Lib.hid hdl; have HD8 := Lib.hid hd8
    have HCW := Lib.hid (HC2.out.trans hcj (by simp))
    clear hcj hdj hdl hd8
    by_cases hgo : j < len3 ∧ j < BY.length ∧ j < 3 ∧ 0 < c
    · obtain ⟨g1, g2, g3, g4⟩ := hgo
      have d1 : decide (j < len3) = true := by simpa using g1
      have d2 : decide (j < BY.length) = true := by simpa using g2
      obtain ⟨gd, rfl, hgd, -, -, -⟩ := own_ptr HDJ.out g4
      obtain ⟨ga, oa, rfl, hca⟩ := W3.out.at g1
      have ca := HCW.out.cell (hca j g1) (by simp)
      have bw := Lib.hid (wf_getD (zs := z3) (i := j) (k := .i64) (by
        rcases W3.out with ⟨h, _⟩ | ⟨x, h, h1, h2, h3, h4, h5⟩
        · cases h
        · exact h5) (by omega))
      clear hca
      obtain ⟨x, rfl, hx0⟩ := (HBY.out.keep HCW.out).at rfl (by omega)
      have hx := hx0 j g2
      clear hx0
      have hy8 : BY.getD j 0 < 2 ^ 8 := HBYL.out _ (getD_mem g2)
      obtain ⟨y, hy⟩ : ∃ y, y = BY.getD j 0 := ⟨_, rfl⟩
      rw [← hy] at hx hy8
      obtain ⟨q, hq⟩ : ∃ q, q = (z3.getD j 0 % (c : Nat)).toNat := ⟨_, rfl⟩
      have hqc : q < c := by rw [hq]; exact within_lt _ c g4
      have HQq := Lib.hid hq
      have hd := own_cell HDJ.out HDL.out q hqc
      have hf := HDJ.out.frozenAt q
      have ht8 : DL.getD q 0 < 2 ^ 8 := HD8.out _ (getD_mem (by rw [HDL.out]; exact hqc))
      obtain ⟨t, ht⟩ : ∃ t, t = DL.getD q 0 := ⟨_, rfl⟩
      rw [← ht] at hd ht8
      clear hy ht hq
      obtain ⟨av, hav⟩ : ∃ av, av = z3.getD j 0 := ⟨_, rfl⟩
      rw [← hav] at ca bw HQq
      clear hav
      go_wp2
      go_still_tail 16, (by kernel_rfl)
      still_call ((w10_nat av c _ g4 (by omega) bw.out).mono fun e w'' h => ⟨h.1, h.2.symm⟩)
      rw [← HQq.out]
      repeat still_step
      refine wpStill_nil ?_
      go_wp2
      have hv : ((t : Int) + y) % 256 = (((t + y) % 256 : Nat) : Int) := by omega
      have hst := HDJ.out.stored q (.int .u8 (((t + y) % 256 : Nat) : Int))
      rw [nv_set] at hst
      have hcc := (HCJ.out.setCell (p := ⟨gd, q, none⟩) (.inr hgd) (.int .u8 (((t + y) % 256 : Nat) : Int))).drew
      rw [hv]
      go_roundw
      case rel => exact ⟨j + 1, DL.set q ((t + y) % 256), g1, by go_num, by omega, hcc, hst.1, by rw [List.length_set]; exact HDL.out, fun x hx => by
        rcases List.mem_or_eq_of_mem_set hx with h | h
        · exact HD8.out x h
        · omega⟩
      case measure => simp [intOf]; omega
    · go_upto_region 10 with fail
      go_cut [66] (fun s65 wx => s65 = .bool false ∧ wx = wr)
      case first =>
        by_cases g1 : j < len3
        · have d1 : decide (j < len3) = true := by simpa using g1
          by_cases g2 : j < BY.length
          · have d2 : decide (j < BY.length) = true := by simpa using g2
            by_cases g3 : j < 3
            · have d4 : decide (0 < c) = false := by simp; omega
              clear hgo
              go_wp2_with fail
              go_meet
              case rel => exact ⟨rfl, rfl⟩
            · go_wp2_with fail
              go_meet
              case rel => exact ⟨rfl, rfl⟩
          · have d2 : decide (j < BY.length) = false := by simpa using g2
            go_wp2_with fail
            go_meet
            case rel => exact ⟨rfl, rfl⟩
        · have d1 : decide (j < len3) = false := by simpa using g1
          go_wp2_with fail
          go_meet
          case rel => exact ⟨rfl, rfl⟩
      case rest =>
        obtain ⟨rfl, hwx⟩ := hcut
        subst hwx
        go_upto_if 87 with fail
        go_cut [18] (fun s17 wx => (∃ ao n cap, s17 = .slice ao n cap ∧ BsL wc (.slice ao n cap)) ∧ wx = wc)
        case first =>
          have hd481 : DL.length < 100000 := by rw [HDL.out]; omega
          by_cases h3 : a5.tmod 3 = 1
          · obtain ⟨td1, td2, td3⟩ := tdiv_wf a5 3 (by decide) W5.out
            have TD := Lib.hid td1
            have hq : wrap64 (a5.tdiv 3) = a5.tdiv 3 := IntWalk.wrap64_in _ ⟨td2, td3⟩
            clear td1 td2 td3
            obtain ⟨mm, hmm⟩ : ∃ m, m = (a5.tdiv 3 % (c + 1 : Nat)).toNat := ⟨_, rfl⟩
            have hmc : mm < c + 1 := by rw [hmm]; exact within_lt _ (c + 1) (by omega)
            have HMm := Lib.hid hmm; clear hmm
            have hcc := own_room HDJ.out
            have HFR := Lib.hid ((reads_of_own HDJ.out).seen.front HDL.out mm (by omega))
            go_wp2_with fail
            refine (w10' (a5.tdiv 3) ((c : Int) + 1) (c + 1) _ (by omega) (by omega) (by omega) TD.out).mono ?_
            rintro x w5 ⟨rfl, rfl⟩
            rw [← HMm.out]
            go_wp2_with fail
            go_meet
            case rel => exact ⟨⟨_, mm, capd, rfl, DL.take mm, HFR.out, fun x hx => HD8.out x (List.mem_of_mem_take hx), by simp; omega⟩, rfl⟩
          · go_wp2_with fail
            go_meet
            case rel => exact ⟨⟨ad, c, capd, rfl, DL, (reads_of_own HDJ.out).seen, HD8.out, hd481⟩, rfl⟩
        case rest =>
          obtain ⟨⟨ao, n, cap, rfl, hbs⟩, hwc⟩ := hcut
          subst hwc
          have HBS := Lib.hid hbs; clear hbs
          have HB5 : Hid (Seen wc (.slice bo c bc) (nv .u8 PB)) := Lib.hid (HB2.out.keep HCJ.out)
          clear HDJ HDL HD8
          go_wp2_with (at_builtin; refine wpList_append_reads _ rfl (.tmp 98) (.tmp 99) 23 23 rfl wc.heap.size 5 5 i0 (.int .u8 0) 1 Try.underlying23 Try.underlying23 hi hz0 hz1 hz2 rfl (.slice (some ⟨wc.heap.size, 0, none⟩) 0 0) 0 [] rfl (own_lit wc _ _ rfl (Nat.le_refl _) 5 _ _ 0 1 rfl rfl (by decide)) _ (nv .u8 PB) rfl (HB5.out.keep ((Chg.refl [] wc).alloc _)) hone.out ?c1 ?c2 ?c3 ?_)
          case c1 => rw [nv_length, ← HCP.out]; unfold maxLen; omega
          case c2 => rw [nv_length, ← HCP.out]; omega
          case c3 => simp
          intro v6 w6 hown hgrow
          rw [← HCP.out] at hown
          have HC6' : Hid (Chg [] wc w6) := Lib.hid (((Chg.refl [] wc).alloc _).grown hgrow (fun k hk => .inr (by simp [Value.ownBlock] at hk; omega)))
          obtain ⟨ao6, cap6', rfl⟩ := own_shape hown
          have HO6 := Lib.hid (show w6.ownsRow wc.heap.size 5 1 (.slice ao6 c cap6') c (nv .u8 PB) by simpa using hown)
          have HRW6 := Lib.hid (HRW.out.keep (HCW.out.trans HC6'.out (by simp)))
          have honeR := Lib.hid (nv_one .u8 RW)
          clear hown hgrow
          go_wp2_with (at_builtin; refine wpList_append_reads _ rfl (.tmp 100) (.tmp 101) 23 23 rfl wc.heap.size 5 5 i0 (.int .u8 0) 1 Try.underlying23 Try.underlying23 hi hz0 hz1 hz2 rfl (.slice ao6 c cap6') c (nv .u8 PB) rfl HO6.out _ (nv .u8 RW) rfl HRW6.out honeR.out ?d1 ?d2 ?d3 ?_)
          case d1 => rw [nv_length]; unfold maxLen; omega
          case d2 => rw [nv_length]; omega
          case d3 => exact HC6'.out.size
          intro v7 w7 hown hgrow
          have HC7' : Hid (Chg [] wc w7) := Lib.hid (HC6'.out.grown hgrow (fun k hk => .inr (HO6.out.lt k hk).1))
          have hb7 : BsL w7 v7 := by
            have e : nv .u8 PB ++ nv .u8 RW = nv .u8 (PB ++ RW) := by simp [nv]
            rw [e] at hown
            refine ⟨PB ++ RW, (reads_of_own hown).seen, fun x hx => ?_, by rw [List.length_append, ← HCP.out]; omega⟩
            rcases List.mem_append.1 hx with h | h
            · exact HPB8.out x h
            · exact HRWL.out x h
          obtain ⟨ao7, cap7', rfl⟩ := own_shape hown
          try rw [nv_length] at hown
          try rw [nv_length] at hb7
          generalize c + RW.length = n7 at hown hb7 ⊢
          have HX0 : Hid (BsL w7 (.slice bo c bc)) := Lib.hid ⟨PB, HB5.out.keep HC7'.out, HPB8.out, by rw [← HCP.out]; omega⟩
          have HX1 := Lib.hid (HBS.out.keep HC7'.out)
          have HX2 := Lib.hid hb7
          have HX3 : Hid (BsL w7 (.slice a6 RW.length cap6)) := Lib.hid ⟨RW, HRW.out.keep (HCW.out.trans HC7'.out (by simp)), HRWL.out, by omega⟩
          have HC7 := Lib.hid (HCW.out.trans HC7'.out (by simp))
          clear hown hgrow hb7 HO6 HRW6
          go_upto_region 16 with fail
          obtain ⟨w8, hw8⟩ : ∃ w8, w8 = w7.alloc (.cells #[.slice bo c bc, .slice ao n cap, .slice ao7 n7 cap7', .slice a6 RW.length cap6] 23) := ⟨_, rfl⟩
          rw [← hw8]
          obtain ⟨gr, hgr⟩ : ∃ g, g = w7.heap.size := ⟨_, rfl⟩
          rw [← hgr]
          have HBLK : Hid (w8.heap[gr]? = some (.cells #[.slice bo c bc, .slice ao n cap, .slice ao7 n7 cap7', .slice a6 RW.length cap6] 23 (0, 0))) := Lib.hid (by rw [hw8, hgr]; exact heap_alloc_new w7 _)
          have HA7 : Hid (Chg [] w7 w8) := Lib.hid (by rw [hw8]; exact (Chg.refl [] w7).alloc _)
          clear hw8 hgr
          obtain ⟨q9, hq9⟩ : ∃ q9 : Int, q9 = (m : Int) + (K9 : Int) - 4 := ⟨_, rfl⟩
          have hq9b : -4 ≤ q9 ∧ q9 ≤ 400 := by omega
          have hwn2 : IntKind.i64.wrap ((m : Int) + (K9 : Int) - 4) = q9 := by rw [hq9]; exact IntWalk.i64_in _ (by omega)
          have hq9r : (m : Int) + (K9 : Int) - 4 = q9 := hq9.symm
          clear hq9
          go_upto_region 17 with (first
            | (go_at_call 5; (with_reducible refine (HQ9.out _).mono ?_); rintro e w3 ⟨rfl, rfl⟩)
            | fail)
          clear hwn2 hq9r
          obtain ⟨w9, hw9⟩ : ∃ w9, w9 = w8.alloc (.cells #[.int .i64 (m : Int), .int .i64 q9, .int .i64 a2] 3) := ⟨_, rfl⟩
          rw [← hw9]
          obtain ⟨gk, hgk⟩ : ∃ g, g = w8.heap.size := ⟨_, rfl⟩
          try rw [← hgk]
          have HKB : Hid (w9.heap[gk]? = some (.cells #[.int .i64 (m : Int), .int .i64 q9, .int .i64 a2] 3 (0, 0))) := Lib.hid (by rw [hw9, hgk]; exact heap_alloc_new w8 _)
          have HA8 : Hid (Chg [] w8 w9) := Lib.hid (by rw [hw9]; exact (Chg.refl [] w8).alloc _)
          have HA9 := Lib.hid (HA7.out.trans HA8.out (by simp))
          have HRB := Lib.hid (HA8.out.heap HBLK.out (by simp))
          clear hw9 hgk
          have HROW := Lib.hid (show ∀ wx, Chg [] w9 wx → ∀ j, j < 4 → ∃ aj nj cj, wx.cell? ⟨gr, j, none⟩ = some (.slice aj nj cj) ∧ BsL wx (.slice aj nj cj) from fun wx hcx j hj => by
            have hk := hcx.heap HRB.out (by simp)
            have hc7 := HA9.out.trans hcx (by simp)
            rcases (show j = 0 ∨ j = 1 ∨ j = 2 ∨ j = 3 by omega) with rfl | rfl | rfl | rfl
            · exact ⟨_, _, _, by simp [World.cell?, hk], HX0.out.keep hc7⟩
            · exact ⟨_, _, _, by simp [World.cell?, hk], HX1.out.keep hc7⟩
            · exact ⟨_, _, _, by simp [World.cell?, hk], HX2.out.keep hc7⟩
            · exact ⟨_, _, _, by simp [World.cell?, hk], HX3.out.keep hc7⟩)
          have HNUM := Lib.hid (show ∀ wx, Chg [] w9 wx → ∀ j, j < 3 → ∃ x, wx.cell? ⟨gk, j, none⟩ = some (.int .i64 x) from fun wx hcx j hj => by
            have hk := hcx.heap HKB.out (by simp)
            rcases (show j = 0 ∨ j = 1 ∨ j = 2 by omega) with rfl | rfl | rfl
            · exact ⟨(m : Int), by simp [World.cell?, hk]⟩
            · exact ⟨q9, by simp [World.cell?, hk]⟩
            · exact ⟨a2, by simp [World.cell?, hk]⟩)
          have HCB := Lib.hid (HC7.out.trans HA9.out (by simp))
          clear HX0 HX1 HX2 HX3 HBS HB5 HCJ HBLK
          go_wp2
          go_loopw [22] (fun i wx => ∃ j : Nat, j ≤ 4 ∧ i = .int .i64 (j : Int) ∧ Chg [] w9 wx) (fun i _ => 4 - (intOf i).toNat)
          case atStart => exact ⟨0, by omega, rfl, Chg.refl _ _⟩
          case round =>
            obtain ⟨j4, hj4, rfl, hcx⟩ := hrel
            have HCX := Lib.hid hcx; clear hcx
            by_cases hlt4 : j4 < 4
            · have d4 : decide ((j4 : Int) < 4) = true := by simp; omega
              go_wp2
              go_loopw [23] (fun i wx => ∃ j : Nat, j ≤ 3 ∧ i = .int .i64 (j : Int) ∧ Chg [] w9 wx) (fun i _ => 3 - (intOf i).toNat)
              case atStart => exact ⟨0, by omega, rfl, HCX.out⟩
              case round =>
                obtain ⟨jj, hjj, rfl, hcx⟩ := hrel
                have HCY := Lib.hid hcx; clear hcx
                by_cases hlt3 : jj < 3
                · have d3 : decide ((jj : Int) < 3) = true := by simp; omega
                  obtain ⟨aj, nj, cj, hcell, RL, hRL, hRL8, hRLl⟩ := HROW.out wr HCY.out j4 hlt4
                  obtain ⟨num, hnum⟩ := HNUM.out wr HCY.out jj hlt3
                  have hnj : nj = RL.length := by
                    obtain ⟨_, _, he, _⟩ := hRL.shape
                    injection he with e1 e2 e3
                    rw [e2, nv_length]
                  have HRL := Lib.hid hRL; have HRL8 := Lib.hid hRL8; have HNJ := Lib.hid hnj
                  have honeL := Lib.hid (nv_one .u8 RL)
                  have hxi : (j4 : Int) < 4 := by omega
                  have hxk : (jj : Int) < 3 := by omega
                  have hUl := decA_short RL num (W : Int)
                  obtain ⟨U, hU⟩ : ∃ U, U = (decA RL num (W : Int)).2 := ⟨_, rfl⟩
                  obtain ⟨Er, hEr⟩ : ∃ Er, Er = (decA RL num (W : Int)).1 := ⟨_, rfl⟩
                  rw [← hU] at hUl
                  obtain ⟨nU, hnU⟩ : ∃ n, n = U.length := ⟨_, rfl⟩
                  have HDEC := Lib.hid (show ∀ wx bv, Seen wx bv (nv .u8 RL) → Calls Try.prog 8 #[bv, .int .i64 num, .int .i64 (W : Int)] wx fun e w' => ∃ ao cap, e = .returned (.tuple #[.slice ao nU cap, .int .i64 (Er : Int)]) ∧ Chg [] wx w' ∧ Seen w' (.slice ao nU cap) (nv .i64 U) from fun wx bv hs => (decode_any bv RL num (W : Int) wx hs HRL8.out).mono (by
                    intro e w' h
                    have h := dec_seen h
                    rw [← hU, ← hEr, ← hnU] at h
                    exact h))
                  have HREF := Lib.hid (show ∀ wx bv, Seen wx bv (nv .u8 RL) → Calls Try.prog 9 #[bv, .int .i64 num, .int .i64 (W : Int)] wx fun e w' => ∃ ao cap, e = .returned (.tuple #[.slice ao nU cap, .int .i64 (Er : Int)]) ∧ Chg [] wx w' ∧ Seen w' (.slice ao nU cap) (nv .i64 U) from fun wx bv hs => (rdecode10_any bv RL num (W : Int) wx hs HRL8.out (Nat.le_trans (Nat.le_of_lt hRLl) (by decide))).mono (by
                    intro e w' h
                    have h := dec_seen h
                    rw [← hU, ← hEr, ← hnU] at h
                    exact h))
                  have HCL := Lib.hid (show ∀ wx, Chg [] wr wx → wx.cell? ⟨gr, j4, none⟩ = some (.slice aj nj cj) ∧ wx.cell? ⟨gk, jj, none⟩ = some (.int .i64 num) from fun wx h => ⟨h.cell hcell (by simp), h.cell hnum (by simp)⟩)
                  have HUL := Lib.hid hUl
                  obtain ⟨q1, q2⟩ := HCL.out wr.drew (Chg.refl _ _).drew
                  obtain ⟨q3, q4⟩ := HCL.out (wr.alloc (.cells #[] 5)) ((Chg.refl _ _).alloc _)
                  obtain ⟨q5, q6⟩ := HCL.out (wr.alloc (.cells #[] 5)).drew ((Chg.refl _ _).alloc _).drew
                  obtain ⟨q7, q8⟩ := HCL.out (wr.drew.alloc (.cells #[] 5)) ((Chg.refl _ _).drew.alloc _)
                  have HOL := Lib.hid (show (wr.drew.alloc (.cells #[] 5)).ownsRow wr.heap.size 5 1 (.slice (some ⟨wr.heap.size, 0, none⟩) 0 0) 0 [] from own_lit wr.drew _ _ rfl (Nat.le_refl _) 5 _ _ 0 1 rfl rfl (by decide))
                  have HSL := Lib.hid (HRL.out.keep ((Chg.refl [] wr).drew.alloc (.cells #[] 5)))
                  have HM1 := Lib.hid (show 0 + (nv .u8 RL).length ≤ maxLen by rw [nv_length]; unfold maxLen; omega)
                  have HM2 := Lib.hid (show (0 + (nv .u8 RL).length) * 1 ≤ 140737488355328 by rw [nv_length]; omega)
                  have HSB := Lib.hid (show wr.heap.size ≤ (wr.drew.alloc (.cells #[] 5)).heap.size from ((Chg.refl [] wr).drew.alloc (.cells #[] 5)).size)
                  have HNU := Lib.hid hnU
                  clear hU hEr hRL hRL8 hnj hnU hRLl hUl hcell hnum
                  go_upto_region 23 with fail
                  go_cut [24, 25] (fun s24 s25 wx => ∃ xo1 xc1, s24 = .slice xo1 nU xc1 ∧ s25 = .int .i64 (Er : Int) ∧ Chg [] wr wx ∧ Seen wx (.slice xo1 nU xc1) (nv .i64 U))
                  case first =>
                    go_region_held3 (fun w' => w'.cell? ⟨gr, j4, none⟩ = some (.slice aj nj cj) ∧ w'.cell? ⟨gk, jj, none⟩ = some (.int .i64 num)) (first | exact ⟨q1, q2⟩ | exact ⟨q3, q4⟩ | exact ⟨q5, q6⟩ | exact ⟨q7, q8⟩ | exact ⟨s1, s2⟩ | exact ⟨u1, u2⟩) (first
                      | (refine step_append_reads (by rfl) (.tmp 124) (.tmp 128) 23 23 (by rfl) wr.heap.size 5 5 i0 (.int .u8 0) 1 Try.underlying23 Try.underlying23 hi hz0 hz1 hz2 (by rfl) (.slice (some ⟨wr.heap.size, 0, none⟩) 0 0) 0 [] (by rfl) HOL.out (.slice aj nj cj) (nv .u8 RL) (by rfl) HSL.out honeL.out HM1.out HM2.out HSB.out ?_; intro v10 w10 hown hgrow; rw [nv_length, Nat.zero_add, List.nil_append] at hown; obtain ⟨va, vc, rfl⟩ := own_shape hown; have HC10 := Lib.hid (show Chg [] wr w10 from (((Chg.refl [] wr).drew.alloc (.cells #[] 5)).grown hgrow (fun g hg => .inr (HOL.out.lt g hg).1))); have HS10 := Lib.hid (reads_of_own hown).seen; obtain ⟨s1, s2⟩ := HCL.out w10 HC10.out; clear hown hgrow)
                      | (go_simp; go_at_call 8; (with_reducible refine (HDEC.out _ _ HS10.out).mono ?_); rintro e w11 ⟨xo1, xc1, rfl, hk1, hs1⟩; have HC11 := Lib.hid (HC10.out.trans hk1 (by simp)); have HS11 := Lib.hid hs1; obtain ⟨u1, u2⟩ := HCL.out w11 HC11.out; clear hk1 hs1))
                    all_goals
                      try go_wp2
                      go_meet
                      case rel => exact ⟨xo1, xc1, rfl, rfl, HC11.out, HS11.out⟩
                  case rest =>
                    obtain ⟨xo1, xc1, rfl, rfl, hc11, hs11⟩ := hcut
                    have HC11 := Lib.hid hc11; have HS11 := Lib.hid hs11
                    obtain ⟨u1, u2⟩ := HCL.out wc hc11
                    obtain ⟨u3, u4⟩ := HCL.out wc.drew hc11.drew
                    have HRS := Lib.hid (HRL.out.keep hc11.drew)
                    clear hc11 hs11 q1 q2 q3 q4 q5 q6 q7 q8
                    go_upto_region 24 with fail
                    go_cut [26, 27] (fun s26 s27 wx => ∃ yo1 yc1, s26 = .slice yo1 nU yc1 ∧ s27 = .int .i64 (Er : Int) ∧ Chg [] wc wx ∧ Seen wx (.slice yo1 nU yc1) (nv .i64 U))
                    case first =>
                      go_region_held3 (fun w' => w'.cell? ⟨gr, j4, none⟩ = some (.slice aj nj cj) ∧ w'.cell? ⟨gk, jj, none⟩ = some (.int .i64 num)) (first | exact ⟨u3, u4⟩ | exact ⟨u1, u2⟩ | exact HCL.out _ HCZ.out) (first
                        | (go_simp; go_at_call 9; (with_reducible refine (HREF.out _ _ HRS.out).mono ?_); rintro e w12 ⟨yo1, yc1, rfl, hk1, hs1⟩; have HC12 := Lib.hid (((Chg.refl [] wc).drew).trans hk1 (by simp)); have HCZ := Lib.hid (HC11.out.trans HC12.out (by simp)); have HS12 := Lib.hid hs1; clear hk1 hs1))
                      all_goals
                        try go_wp2
                        go_meet
                        case rel => exact ⟨yo1, yc1, rfl, rfl, HC12.out, HS12.out⟩
                    case rest =>
                      obtain ⟨yo1, yc1, rfl, rfl, hc12, hs12⟩ := hcut
                      have HC12 := Lib.hid hc12
                      have HSM := Lib.hid (ints10_any _ _ U U _ (HS11.out.keep hc12) hs12 (Nat.le_trans HUL.out (by decide)) (Nat.le_trans HUL.out (by decide)))
                      have hee : ((Er : Int) != (Er : Int)) = false := by simp
                      clear hc12 hs12
                      go_wp2_with (first
                        | (go_at_call 10; (with_reducible refine HSM.out.mono ?_); rintro e w13 ⟨⟨r, rfl, hr⟩, hk1⟩; obtain rfl : r = true := hr.2 rfl; have HC13 := Lib.hid (HC12.out.trans hk1 (by simp)); clear hk1 hr)
                        | fail)
                      go_roundw
                      case rel => exact ⟨jj + 1, hlt3, by go_num, HCY.out.trans (HC11.out.trans HC13.out (by simp)) (by simp)⟩
                      case measure => simp [intOf]; omega
                · have d3 : decide ((jj : Int) < 3) = false := by simp; omega
                  go_wp2
                  go_roundw
                  case rel => exact ⟨j4 + 1, hlt4, by go_num, HCY.out⟩
                  case measure => simp [intOf]; omega
            · have d4 : decide ((j4 : Int) < 4) = false := by simp; omega
              have HCW9 := Lib.hid (HCB.out.trans HCX.out (by simp))
              obtain ⟨Er, hEr⟩ : ∃ Er, Er = (decA RW a2 a1).1 := ⟨_, rfl⟩
              have HD1 := Lib.hid (show Calls Try.prog 8 #[.slice a6 RW.length cap6, .int .i64 a2, .int .i64 a1] wr fun e w' => ∃ v, e = .returned (.tuple #[v, .int .i64 (Er : Int)]) ∧ Chg [] wr w' from (decode_any _ RW a2 a1 wr (HRW.out.keep HCW9.out) HRWL.out).mono (by
                rintro e w' ⟨v, rfl, hc, -⟩
                exact ⟨v, by rw [← hEr], hc⟩))
              have HD2 := Lib.hid (show ∀ wx, Chg [] w wx → Calls Try.prog 9 #[.slice a6 RW.length cap6, .int .i64 a2, .int .i64 a1] wx fun e w' => ∃ v, e = .returned (.tuple #[v, .int .i64 (Er : Int)]) ∧ Chg [] wx w' from fun wx h => (rdecode10_any _ RW a2 a1 wx (HRW.out.keep h) HRWL.out (by omega)).mono (by
                rintro e w' ⟨v, rfl, hc, -⟩
                exact ⟨v, by rw [← hEr], hc⟩))
              have hee : ((Er : Int) == (Er : Int)) = true := by simp
              clear hEr
              go_wp2_with (first
                | (go_at_call 8; (with_reducible refine HD1.out.mono ?_); rintro e w12 ⟨y1, rfl, hc1⟩; have HF1 := Lib.hid (HCW9.out.trans hc1 (by simp)); clear hc1)
                | (go_at_call 9; (with_reducible refine (HD2.out _ HF1.out).mono ?_); rintro e w13 ⟨y3, rfl, hc1⟩; have HF2 := Lib.hid (HF1.out.trans hc1 (by simp)); clear hc1)
                | fail)
              go_ret
              exact ⟨by simp, HF2.out.below (Nat.le_refl _) (by simp)⟩

end Go.Proofs.Ytlhdicbhanncnaa
