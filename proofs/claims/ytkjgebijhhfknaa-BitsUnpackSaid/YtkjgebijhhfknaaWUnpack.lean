/- The walk of the statement BitsUnpack. -/
import Derived.Test.YtkjgebijhhfknaaStr
import Derived.Test.YtkjgebijhhfknaaWBack
import Derived.Deep.LoopGhost
import Derived.Deep.DeepCutAuto
namespace Go.Proofs.Ytkjgebijhhfknaa
open Go.RowKit
set_option linter.unusedVariables false

/-- What Unpack tells of an error, of whatever numbers. -/
def uerr (b : List Nat) (n width : Int) : Int := if 0 ≤ n ∧ n ≤ 4000 ∧ 0 ≤ width ∧ width ≤ 64 then faultOf b (width.toNat * n.toNat) else 1
def ulist (b : List Nat) (n width : Int) : List Nat := if 0 ≤ n ∧ n ≤ 4000 ∧ 0 ≤ width ∧ width ≤ 64 then outU b n.toNat width.toNat else []

def UOut (b : List Nat) (n width : Int) (w : World) (e : Ending) (w' : World) : Prop :=
  ∃ ao cap, e = .returned (.tuple #[.slice ao (ulist b n width).length cap, .int .i64 (uerr b n width)]) ∧ Chg [] w w' ∧ Seen w' (.slice ao (ulist b n width).length cap) (nv .u64 (ulist b n width))

theorem UnpackOut.out {b : List Nat} {n width : Nat} {w : World} {e : Ending} {w' : World} (h : UnpackOut b n width w e w') (h1 : n ≤ 4000) (h2 : width ≤ 64) : UOut b n width w e w' := by
  obtain ⟨v, rfl, h3, h4⟩ := h
  obtain ⟨ao, cap, rfl⟩ := own_shape h4
  have hc : 0 ≤ (n : Int) ∧ (n : Int) ≤ 4000 ∧ 0 ≤ (width : Int) ∧ (width : Int) ≤ 64 := by omega
  have e1 : uerr b n width = faultOf b (width * n) := by unfold uerr; rw [if_pos hc, Int.toNat_natCast, Int.toNat_natCast]
  have e2 : ulist b n width = outU b n width := by unfold ulist; rw [if_pos hc, Int.toNat_natCast, Int.toNat_natCast]
  refine ⟨ao, cap, by rw [e1, e2], h3, ?_⟩
  rw [e2]
  exact (reads_of_own h4).seen

theorem uz (bv : Value) (b : List Nat) (n width : Int) (w : World) (hS : Seen w bv (nv .u8 b)) (hb : ∀ x ∈ b, x < 2 ^ 8) :
    Calls Try.prog 15 #[bv, .int .i64 n, .int .i64 width] w (UOut b n width w) := by
  by_cases h : 0 ≤ n ∧ n ≤ 4000 ∧ 0 ≤ width ∧ width ≤ 64
  · obtain ⟨n', rfl⟩ := Int.eq_ofNat_of_zero_le h.1
    obtain ⟨k, rfl⟩ := Int.eq_ofNat_of_zero_le h.2.2.1
    exact (unpack_any bv b n' k w (by omega) (by omega) hS hb).mono fun e w' h' => h'.out (by omega) (by omega)
  · refine (unpack_args bv n width w (by omega)).mono ?_
    rintro e w' ⟨rfl, rfl⟩
    have e1 : uerr b n width = 1 := by unfold uerr; rw [if_neg h]
    have e2 : ulist b n width = [] := by unfold ulist; rw [if_neg h]
    refine ⟨none, 0, by rw [e1, e2]; rfl, Chg.refl _ _, ?_⟩
    rw [e2]; exact Seen.nil _

theorem ruz (bv : Value) (b : List Nat) (n width : Int) (w : World) (hbl : b.length < 137438953472) (hS : Seen w bv (nv .u8 b)) (hb : ∀ x ∈ b, x < 2 ^ 8) :
    Calls Try.prog 16 #[bv, .int .i64 n, .int .i64 width] w (UOut b n width w) := by
  by_cases h : 0 ≤ n ∧ n ≤ 4000 ∧ 0 ≤ width ∧ width ≤ 64
  · obtain ⟨n', rfl⟩ := Int.eq_ofNat_of_zero_le h.1
    obtain ⟨k, rfl⟩ := Int.eq_ofNat_of_zero_le h.2.2.1
    exact (runpack_any bv b n' k w (by omega) (by omega) hbl hS hb).mono fun e w' h' => h'.out (by omega) (by omega)
  · refine (runpack_args bv n width w (by omega)).mono ?_
    rintro e w' ⟨rfl, rfl⟩
    have e1 : uerr b n width = 1 := by unfold uerr; rw [if_neg h]
    have e2 : ulist b n width = [] := by unfold ulist; rw [if_neg h]
    refine ⟨none, 0, by rw [e1, e2]; rfl, Chg.refl _ _, ?_⟩
    rw [e2]; exact Seen.nil _

theorem within_int (a : Int) (n : Int) (m : Nat) (w : World) (hn : n = (m : Int)) (h1 : 1 ≤ m) (h2 : m ≤ 4611686018427387904) (h : (Lit.int .i64 a).wf = true) :
    Calls Try.prog 12 #[.int .i64 a, .int .i64 n] w fun e w' => e = .returned (.int .i64 (((a % m).toNat : Nat) : Int)) ∧ w = w' := by
  rw [hn]; exact within_nat a m w h1 h2 h

/-- Bytes that are read at a slice. -/
def Bs (w : World) (v : Value) : Prop := ∃ l : List Nat, Seen w v (nv .u8 l) ∧ (∀ x ∈ l, x < 2 ^ 8) ∧ l.length < 1000000

theorem Bs.keep {w w' : World} {v : Value} (h : Bs w v) (hc : Chg [] w w') : Bs w' v := by
  obtain ⟨l, h1, h2, h3⟩ := h
  exact ⟨l, h1.keep hc, h2, h3⟩

set_option maxRecDepth 100000 in
set_option maxHeartbeats 4000000 in
theorem walk_BitsUnpack (a0 : Option Addr) (len0 cap0 : Nat) (z0 : List Int) (a1 : Int) (a2 : Int) (a3 : Option Addr) (len3 cap3 : Nat) (z3 : List Int) (a4 : Option Addr) (len4 cap4 : Nat) (z4 : List Int) (a5 : Int) (a6 : Option Addr) (len6 cap6 : Nat) (z6 : List Int) (w : World)
    (w0 : IsRow .u64 w a0 len0 cap0 z0) (w1 : (Lit.int .i64 a1).wf = true) (w2 : (Lit.int .i64 a2).wf = true) (w3 : IsRow .i64 w a3 len3 cap3 z3) (w4 : IsRow .u8 w a4 len4 cap4 z4) (w5 : (Lit.int .i64 a5).wf = true) (w6 : IsRow .u8 w a6 len6 cap6 z6) :
    Calls Try.prog 4 #[.slice a0 len0 cap0, .int .i64 a1, .int .i64 a2, .slice a3 len3 cap3, .slice a4 len4 cap4, .int .i64 a5, .slice a6 len6 cap6] w fun e w' => e = .returned (.bool true) ∧ Below w.heap.size w w' := by
  obtain ⟨S, hS, rfl, hSl⟩ := w0.u64s
  obtain ⟨BY, hBY, rfl, hBYl⟩ := w4.u8s
  obtain ⟨RW, hRW, rfl, hRWl⟩ := w6.u8s
  have HS := Lib.hid hS; have HSL := Lib.hid hSl; have W1 := Lib.hid w1; have W3 := Lib.hid w3; have W5 := Lib.hid w5
  have HBY := Lib.hid hBY; have HBYL := Lib.hid hBYl; have HRW := Lib.hid hRW; have HRWL := Lib.hid hRWl
  have hm3 := w3.len
  have hm4 := w4.len.2
  unfold maxLen at hm3 hm4
  clear w0 w1 w2 w3 w4 w5 w6 hS hSl hBY hBYl hRW hRWl
  by_cases hlen : 60 < S.length
  · go_enter Try.func4, Try.ntmps4
    go_wp2_with fail
    refine (known_any _).mono ?_
    rintro x w1 ⟨rfl, hk⟩
    have HC := Lib.hid hk; clear hk
    go_wp2
    go_ret
    exact ⟨rfl, HC.out.below (Nat.le_refl _) (by simp)⟩
  by_cases hlen6 : 200 < RW.length
  · go_enter Try.func4, Try.ntmps4
    go_wp2_with fail
    refine (known_any _).mono ?_
    rintro x w1 ⟨rfl, hk⟩
    have HC := Lib.hid hk; clear hk
    go_wp2
    go_ret
    exact ⟨rfl, HC.out.below (Nat.le_refl _) (by simp)⟩
  obtain ⟨width, hk⟩ : ∃ n, n = (a1 % (65 : Nat)).toNat := ⟨_, rfl⟩
  have hw2 : width < 65 := by rw [hk]; exact within_lt a1 65 (by decide)
  have HK := Lib.hid hk; clear hk
  obtain ⟨i0, hi, hz0, hz1, hz2⟩ := info_u8
  obtain ⟨N, hN⟩ : ∃ N, N = width * S.length := ⟨_, rfl⟩
  have hN2 : N ≤ 64 * 60 := by rw [hN]; exact Nat.mul_le_mul (by omega) (by omega)
  have HN := Lib.hid hN; clear hN
  go_enter Try.func4, Try.ntmps4
  go_wp2_with fail
  refine (known_any _).mono ?_
  rintro x w1 ⟨rfl, hk⟩
  have HC1 := Lib.hid hk; clear hk
  go_wp2_with fail
  refine (within_nat a1 65 _ (by decide) (by decide) W1.out).mono ?_
  rintro x w2 ⟨rfl, rfl⟩
  rw [← HK.out]
  go_wp2_with fail
  refine (rpack_yes _ S width _ (by omega) (by omega) (HS.out.keep HC1.out) HSL.out).mono ?_
  rintro x w2 ⟨gb, rfl, h1, h2⟩
  have HC2 := Lib.hid (HC1.out.trans h1 (by simp))
  have HBO := Lib.hid h2
  clear h1 h2
  obtain ⟨PB, hPB⟩ : ∃ l, l = packed width S := ⟨_, rfl⟩
  have hPBl := packed_length width S
  rw [← HN.out] at hPBl
  have HPB8 : Hid (∀ x ∈ PB, x < 2 ^ 8) := Lib.hid (by rw [hPB]; exact packed_bytes width S)
  rw [← hPB] at HBO hPBl ⊢
  clear hPB
  obtain ⟨c, hc⟩ : ∃ c, c = PB.length := ⟨_, rfl⟩
  rw [← hc] at HBO hPBl ⊢
  have HCP := Lib.hid hc
  have hc8 : c ≤ 481 := by omega
  clear hPBl hc
  have hgb := HBO.out.lt gb rfl
  have hone := Lib.hid (nv_one .u8 PB)
  have HSb := Lib.hid ((reads_of_own HBO.out).seen.keep ((Chg.refl [] w2).alloc (.cells #[] 5)))
  have ho : (w2.alloc (.cells #[] 5)).ownsRow w2.heap.size 5 1 (.slice (some ⟨w2.heap.size, 0, none⟩) 0 0) 0 [] := World.ownsRow_made (base := w2.heap.size) (e := 5) (size := 1) w2 #[] 0 (Nat.le_refl _) (by simp) rfl
  have HO := Lib.hid ho; clear ho
  go_wp2_with (at_builtin; refine wpList_append_reads _ rfl _ _ 25 25 rfl w2.heap.size 5 5 i0 (.int .u8 0) 1 Try.underlying25 Try.underlying25 hi hz0 hz1 hz2 rfl _ _ _ rfl HO.out _ (nv .u8 PB) rfl HSb.out hone.out ?c1 ?c2 ?c3 ?_)
  case c1 => rw [nv_length, ← HCP.out]; unfold maxLen; omega
  case c2 => rw [nv_length, ← HCP.out]; omega
  case c3 => simp
  intro vd w3 hown hgrow
  rw [← HCP.out] at hown
  have hge := own_ge hown
  have HC3' : Hid (Chg [] w2 w3) := Lib.hid (((Chg.refl [] w2).alloc _).grown hgrow (fun k hk => .inr (by simp [Value.ownBlock] at hk; omega)))
  have HC3 := Lib.hid (HC2.out.trans HC3'.out (by simp))
  have HB3 : Hid (w3.ownsRow w1.heap.size 5 1 (.slice (some ⟨gb, 0, none⟩) c c) c (nv .u8 PB)) := Lib.hid (HBO.out.kept HC3'.out.toGrown0 (.inr (by simp [Value.ownBlock])))
  obtain ⟨ad, capd, rfl⟩ := own_shape hown
  have HD3 := Lib.hid hown
  have HGE := Lib.hid hge
  clear hown hge hgrow HO HSb
  go_wp2
  go_loopw [18] (fun i wr => ∃ (j : Nat) (DL : List Nat), j ≤ len3 ∧ i = .int .i64 (j : Int) ∧ j ≤ 3 ∧ Chg [] w wr ∧ wr.ownsRow w1.heap.size 5 1 (.slice (some ⟨gb, 0, none⟩) c c) c (nv .u8 PB) ∧ wr.ownsRow w2.heap.size 5 1 (.slice ad c capd) c (nv .u8 DL) ∧ DL.length = c ∧ ∀ x ∈ DL, x < 2 ^ 8) (fun i _ => 3 - (intOf i).toNat)
  case atStart => exact ⟨0, PB, Nat.zero_le _, rfl, by omega, HC3.out, HB3.out, HD3.out, HCP.out.symm, HPB8.out⟩
  case round =>
    obtain ⟨j, DL, hj, rfl, hj3, hcj, hbj, hdj, hdl, hd8⟩ := hrel
    have HCJ := Lib.hid hcj; have HBJ := Lib.hid hbj; have HDJ := Lib.hid hdj; have HDL := Lib.hid hdl; have HD8 := Lib.hid hd8
    clear hcj hbj hdj hdl hd8
    by_cases hgo : j < len3 ∧ j < BY.length ∧ j < 3 ∧ 0 < c
    · obtain ⟨g1, g2, g3, g4⟩ := hgo
      have d1 : decide (j < len3) = true := by simpa using g1
      have d2 : decide (j < BY.length) = true := by simpa using g2
      obtain ⟨gd, rfl⟩ : ∃ gd, ad = some ⟨gd, 0, none⟩ := by
        rcases HDJ.out.2 with ⟨h, h0⟩ | ⟨g, cap', cur, h, _⟩
        · omega
        · injection h with h1 h2 h3
          exact ⟨g, h1⟩
      have hgd := HGE.out gd rfl
      obtain ⟨ga, oa, rfl, hca⟩ := W3.out.at g1
      have ca := HCJ.out.cell (hca j g1) (by simp)
      have bw := Lib.hid (wf_getD (zs := z3) (i := j) (k := .i64) (by
        rcases W3.out with ⟨h, _⟩ | ⟨x, h, h1, h2, h3, h4, h5⟩
        · cases h
        · exact h5) (by omega))
      clear hca
      obtain ⟨x, rfl, hx0⟩ := (HBY.out.keep HCJ.out).at rfl (by omega)
      have hx := hx0 j g2
      clear hx0
      have hy8 : BY.getD j 0 < 2 ^ 8 := HBYL.out _ (getD_mem g2)
      obtain ⟨y, hy⟩ : ∃ y, y = BY.getD j 0 := ⟨_, rfl⟩
      rw [← hy] at hx hy8
      obtain ⟨q, hq⟩ : ∃ q, q = (z3.getD j 0 % (c : Nat)).toNat := ⟨_, rfl⟩
      have hqc : q < c := by rw [hq]; exact within_lt _ c g4
      have HQ := Lib.hid hq
      have hd := own_cell HDJ.out HDL.out q hqc
      have hf := HDJ.out.frozenAt q
      have ht8 : DL.getD q 0 < 2 ^ 8 := HD8.out _ (getD_mem (by rw [HDL.out]; exact hqc))
      obtain ⟨t, ht⟩ : ∃ t, t = DL.getD q 0 := ⟨_, rfl⟩
      rw [← ht] at hd ht8
      clear hy ht hq
      obtain ⟨av, hav⟩ : ∃ av, av = z3.getD j 0 := ⟨_, rfl⟩
      rw [← hav] at ca bw HQ
      clear hav
      go_wp2
      go_still_tail 16, (by kernel_rfl)
      still_call ((within_nat av c _ g4 (by omega) bw.out).mono fun e w'' h => ⟨h.1, h.2.symm⟩)
      rw [← HQ.out]
      repeat still_step
      refine wpStill_nil ?_
      go_wp2
      have hv : ((t : Int) + y) % 256 = (((t + y) % 256 : Nat) : Int) := by omega
      have hst := HDJ.out.stored q (.int .u8 (((t + y) % 256 : Nat) : Int))
      rw [nv_set] at hst
      have hbk := Go.ownsRow_setCell_other HBJ.out (a := ⟨gd, q, none⟩) (by simp [Value.ownBlock]; omega) (.int .u8 (((t + y) % 256 : Nat) : Int))
      have hcc := (HCJ.out.setCell (p := ⟨gd, q, none⟩) (.inr (by have := HC2.out.size; simp; omega)) (.int .u8 (((t + y) % 256 : Nat) : Int))).drew
      rw [hv]
      go_roundw
      case rel => exact ⟨j + 1, DL.set q ((t + y) % 256), g1, by go_num, by omega, hcc, hbk, hst.1, by rw [List.length_set]; exact HDL.out, fun x hx => by
        rcases List.mem_or_eq_of_mem_set hx with h | h
        · exact HD8.out x h
        · omega⟩
      case measure => simp [intOf]; omega
    · go_upto_region 9 with fail
      go_cut [65] (fun s65 wx => s65 = .bool false ∧ wx = wr)
      case first =>
        by_cases g1 : j < len3
        · have d1 : decide (j < len3) = true := by simpa using g1
          by_cases g2 : j < BY.length
          · have d2 : decide (j < BY.length) = true := by simpa using g2
            by_cases g3 : j < 3
            · have d4 : decide (0 < c) = false := by simp; omega
              clear hgo
              go_wp2_with fail
              go_meet
              case rel => exact ⟨rfl, rfl⟩
            · go_wp2_with fail
              go_meet
              case rel => exact ⟨rfl, rfl⟩
          · have d2 : decide (j < BY.length) = false := by simpa using g2
            go_wp2_with fail
            go_meet
            case rel => exact ⟨rfl, rfl⟩
        · have d1 : decide (j < len3) = false := by simpa using g1
          go_wp2_with fail
          go_meet
          case rel => exact ⟨rfl, rfl⟩
      case rest =>
        obtain ⟨rfl, hwx⟩ := hcut
        subst hwx
        go_upto_if 86 with fail
        go_cut [17] (fun s17 wx => (∃ ao n cap, s17 = .slice ao n cap ∧ Bs wc (.slice ao n cap)) ∧ wx = wc)
        case first =>
          have hd481 : DL.length < 1000000 := by rw [HDL.out]; omega
          by_cases h3 : a5.tmod 3 = 1
          · obtain ⟨td1, td2, td3⟩ := tdiv_wf a5 3 (by decide) W5.out
            have TD := Lib.hid td1
            have hq : wrap64 (a5.tdiv 3) = a5.tdiv 3 := IntWalk.wrap64_in _ ⟨td2, td3⟩
            clear td1 td2 td3
            obtain ⟨m, hm⟩ : ∃ m, m = (a5.tdiv 3 % (c + 1 : Nat)).toNat := ⟨_, rfl⟩
            have hmc : m < c + 1 := by rw [hm]; exact within_lt _ (c + 1) (by omega)
            have HM := Lib.hid hm; clear hm
            rcases HDJ.out.2 with ⟨h, h0⟩ | ⟨g, cap', cur, h, _⟩
            · injection h with h1 h2 h3'
              have hm0 : m = 0 := by omega
              have HM0 := Lib.hid hm0
              subst h1 h3'
              clear h2 h0 hm0
              go_wp2_with fail
              refine (within_int (a5.tdiv 3) _ (c + 1) _ (by omega) (by omega) (by omega) TD.out).mono ?_
              rintro x w5 ⟨rfl, rfl⟩
              rw [← HM.out, HM0.out]
              go_wp2_with fail
              go_meet
              case rel => exact ⟨⟨none, 0, 0, rfl, [], Seen.nil _, by simp, by decide⟩, rfl⟩
            · injection h with h1 h2 h3'
              subst h1 h3'
              have hcc : c ≤ capd := by
                obtain ⟨_, _, he, h1, h2⟩ := (reads_of_own HDJ.out).shape
                injection he with e1 e2 e3
                rw [nv_length, HDL.out] at h1
                omega
              go_wp2_with fail
              refine (within_int (a5.tdiv 3) _ (c + 1) _ (by omega) (by omega) (by omega) TD.out).mono ?_
              rintro x w5 ⟨rfl, rfl⟩
              rw [← HM.out]
              go_wp2_with fail
              go_meet
              case rel => exact ⟨⟨_, m, capd, rfl, DL.take m, own_take HDJ.out HDL.out m (by omega), fun x hx => HD8.out x (List.mem_of_mem_take hx), by simp; omega⟩, rfl⟩
          · go_wp2_with fail
            go_meet
            case rel => exact ⟨⟨ad, c, capd, rfl, DL, by rw [← HDL.out] at *; exact (reads_of_own HDJ.out).seen, HD8.out, hd481⟩, rfl⟩
        case rest =>
          obtain ⟨⟨ao, n, cap, rfl, hbs⟩, hwc⟩ := hcut
          subst hwc
          have HBS := Lib.hid hbs; clear hbs
          have HB5 : Hid (Seen wc (.slice (some ⟨gb, 0, none⟩) c c) (nv .u8 PB)) := Lib.hid (reads_of_own HBJ.out).seen
          clear HDJ HDL HD8 HBJ
          have HSb := Lib.hid (HB5.out.keep ((Chg.refl [] wc).alloc (.cells #[] 5)))
          have ho : (wc.alloc (.cells #[] 5)).ownsRow wc.heap.size 5 1 (.slice (some ⟨wc.heap.size, 0, none⟩) 0 0) 0 [] := World.ownsRow_made (base := wc.heap.size) (e := 5) (size := 1) wc #[] 0 (Nat.le_refl _) (by simp) rfl
          have HO := Lib.hid ho; clear ho
          go_wp2_with (at_builtin; refine wpList_append_reads _ rfl (.tmp 97) (.tmp 98) 25 25 rfl wc.heap.size 5 5 i0 (.int .u8 0) 1 Try.underlying25 Try.underlying25 hi hz0 hz1 hz2 rfl _ _ _ rfl HO.out _ (nv .u8 PB) rfl HSb.out hone.out ?c1 ?c2 ?c3 ?_)
          case c1 => rw [nv_length, ← HCP.out]; unfold maxLen; omega
          case c2 => rw [nv_length, ← HCP.out]; omega
          case c3 => simp
          intro v6 w6 hown hgrow
          rw [← HCP.out] at hown
          have HC6' : Hid (Chg [] wc w6) := Lib.hid (((Chg.refl [] wc).alloc _).grown hgrow (fun k hk => .inr (by simp [Value.ownBlock] at hk; omega)))
          obtain ⟨ao6, cap6', rfl⟩ := own_shape hown
          have HO6 := Lib.hid hown
          have HRW6 := Lib.hid (HRW.out.keep (HCJ.out.trans HC6'.out (by simp)))
          have honeR := Lib.hid (nv_one .u8 RW)
          clear hown hgrow HO HSb
          go_wp2_with (at_builtin; refine wpList_append_reads _ rfl (.tmp 99) (.tmp 100) 25 25 rfl wc.heap.size 5 5 i0 (.int .u8 0) 1 Try.underlying25 Try.underlying25 hi hz0 hz1 hz2 rfl _ _ _ rfl HO6.out _ (nv .u8 RW) rfl HRW6.out honeR.out ?d1 ?d2 ?d3 ?_)
          case d1 => rw [nv_length]; unfold maxLen; omega
          case d2 => rw [nv_length]; omega
          case d3 => exact HC6'.out.size
          intro v7 w7 hown hgrow
          have HC7' : Hid (Chg [] wc w7) := Lib.hid (HC6'.out.grown hgrow (fun k hk => .inr (HO6.out.lt k hk).1))
          have hb7 : Bs w7 v7 := by
            have e : nv .u8 PB ++ nv .u8 RW = nv .u8 (PB ++ RW) := by simp [nv]
            rw [e] at hown
            refine ⟨PB ++ RW, (reads_of_own hown).seen, fun x hx => ?_, by rw [List.length_append, ← HCP.out]; omega⟩
            rcases List.mem_append.1 hx with h | h
            · exact HPB8.out x h
            · exact HRWL.out x h
          obtain ⟨ao7, cap7', rfl⟩ := own_shape hown
          try rw [nv_length] at hown
          try rw [nv_length] at hb7
          generalize c + RW.length = n7 at hown hb7 ⊢
          have HX0 : Hid (Bs w7 (.slice (some ⟨gb, 0, none⟩) c c)) := Lib.hid ⟨PB, HB5.out.keep HC7'.out, HPB8.out, by rw [← HCP.out]; omega⟩
          have HX1 := Lib.hid (HBS.out.keep HC7'.out)
          have HX2 := Lib.hid hb7
          have HX3 : Hid (Bs w7 (.slice a6 RW.length cap6)) := Lib.hid ⟨RW, HRW.out.keep (HCJ.out.trans HC7'.out (by simp)), HRWL.out, by omega⟩
          have HC7 := Lib.hid (HCJ.out.trans HC7'.out (by simp))
          clear hown hgrow hb7 HO6 HRW6
          go_wp2
          have hblk := heap_alloc_new w7 (.cells #[.slice (some ⟨gb, 0, none⟩) c c, .slice ao n cap, .slice ao7 n7 cap7', .slice a6 RW.length cap6] 25)
          have HBLK := Lib.hid hblk; clear hblk
          have HA7 : Hid (Chg [] w7 (w7.alloc (.cells #[.slice (some ⟨gb, 0, none⟩) c c, .slice ao n cap, .slice ao7 n7 cap7', .slice a6 RW.length cap6] 25))) := Lib.hid ((Chg.refl [] w7).alloc _)
          go_loopw [20] (fun i wx => ∃ j : Nat, j ≤ 4 ∧ i = .int .i64 (j : Int) ∧ Chg [] (w7.alloc (.cells #[.slice (some ⟨gb, 0, none⟩) c c, .slice ao n cap, .slice ao7 n7 cap7', .slice a6 RW.length cap6] 25)) wx) (fun i _ => 4 - (intOf i).toNat)
          case atStart => exact ⟨0, by omega, rfl, Chg.refl _ _⟩
          case round =>
            obtain ⟨j, hj, rfl, hcx⟩ := hrel
            have HCX := Lib.hid hcx; clear hcx
            have HCW : Hid (Chg [] w wr) := Lib.hid ((HC7.out.trans HA7.out (by simp)).trans HCX.out (by simp))
            by_cases hlt : j < 4
            · have hrow : ∃ aj nj cj, wr.cell? ⟨w7.heap.size, j, none⟩ = some (.slice aj nj cj) ∧ Bs wr (.slice aj nj cj) := by
                have hk := HCX.out.heap HBLK.out (by simp)
                have hc7 := HA7.out.trans HCX.out (by simp)
                rcases (show j = 0 ∨ j = 1 ∨ j = 2 ∨ j = 3 by omega) with rfl | rfl | rfl | rfl
                · exact ⟨_, _, _, by simp [World.cell?, hk], HX0.out.keep hc7⟩
                · exact ⟨_, _, _, by simp [World.cell?, hk], HX1.out.keep hc7⟩
                · exact ⟨_, _, _, by simp [World.cell?, hk], HX2.out.keep hc7⟩
                · exact ⟨_, _, _, by simp [World.cell?, hk], HX3.out.keep hc7⟩
              obtain ⟨aj, nj, cj, hcell, L, hL, hL8, hLl⟩ := hrow
              have hnj : nj = L.length := by
                obtain ⟨_, _, he, _⟩ := hL.shape
                injection he with e1 e2 e3
                rw [e2, nv_length]
              have HCELL := Lib.hid hcell
              have HL := Lib.hid hL; have HL8 := Lib.hid hL8; have HNJ := Lib.hid hnj
              have honeL := Lib.hid (nv_one .u8 L)
              clear hL hL8 hnj
              have hcell2 := ((Chg.refl [] wr).alloc (.cells #[] 5)).cell hcell (by simp)
              have HSL2 := Lib.hid (HL.out.keep ((Chg.refl [] wr).alloc (.cells #[] 5)))
              have ho : (wr.alloc (.cells #[] 5)).ownsRow wr.heap.size 5 1 (.slice (some ⟨wr.heap.size, 0, none⟩) 0 0) 0 [] := World.ownsRow_made (base := wr.heap.size) (e := 5) (size := 1) wr #[] 0 (Nat.le_refl _) (by simp) rfl
              have HO := Lib.hid ho; clear ho
              go_wp2_with (at_builtin; refine wpList_append_reads _ rfl (.tmp 109) (.tmp 113) 25 25 rfl wr.heap.size 5 5 i0 (.int .u8 0) 1 Try.underlying25 Try.underlying25 hi hz0 hz1 hz2 rfl _ _ _ rfl HO.out _ (nv .u8 L) rfl HSL2.out honeL.out ?e1 ?e2 ?e3 ?_)
              case e1 => rw [nv_length]; unfold maxLen; omega
              case e2 => rw [nv_length]; omega
              case e3 => simp
              intro v8 w8 hown hgrow
              have HC8 : Hid (Chg [] wr w8) := Lib.hid (((Chg.refl [] wr).alloc _).grown hgrow (fun k hk => .inr (by simp [Value.ownBlock] at hk; omega)))
              have HS8 := Lib.hid (reads_of_own hown).seen
              obtain ⟨ao8, cap8, rfl⟩ := own_shape hown
              clear hown hgrow HO HSL2
              go_wp2_with fail
              refine (uz _ L _ _ _ HS8.out HL8.out).mono ?_
              rintro e w9 ⟨ao9, cap9, rfl, h1, h2⟩
              generalize hE : uerr L S.length width = E at *
              generalize hU : ulist L S.length width = U at *
              have HE := Lib.hid hE; have HU := Lib.hid hU
              clear hE hU
              have HC9' := Lib.hid (HC8.out.trans h1 (by simp))
              have HX9 := Lib.hid h2
              have hcell9 := HC9'.out.cell hcell (by simp)
              clear h1 h2 hcell hcell2
              go_wp2_with fail
              refine (ruz _ L _ _ _ (by omega) (HL.out.keep HC9'.out) HL8.out).mono ?_
              rintro e w10 ⟨ao10, cap10, rfl, h1, h2⟩
              rw [HE.out, HU.out] at *
              have HC10 := Lib.hid (HC9'.out.trans h1 (by simp))
              have HX10 := Lib.hid (HX9.out.keep h1)
              have HY10 := Lib.hid h2
              clear h1 h2 hcell9
              go_wp2_with fail
              refine (numbers_any _ _ U _ HX10.out HY10.out).mono ?_
              rintro e w11 ⟨rfl, h1⟩
              have HC11 := Lib.hid (HC10.out.trans h1 (by simp))
              clear h1
              go_wp2
              go_roundw
              case rel => exact ⟨j + 1, hlt, by go_num, HCX.out.trans HC11.out (by simp)⟩
              case measure => simp [intOf]; omega
            · go_wp2_with fail
              refine (uz _ RW _ _ _ (HRW.out.keep HCW.out) HRWL.out).mono ?_
              rintro e w9 ⟨ao9, cap9, rfl, h1, h2⟩
              generalize hE : uerr RW a2 a1 = E at *
              generalize hU : ulist RW a2 a1 = U at *
              have HE := Lib.hid hE; have HU := Lib.hid hU
              clear hE hU
              have HC9 := Lib.hid (HCW.out.trans h1 (by simp))
              have HX9 := Lib.hid h2
              clear h1 h2
              go_wp2_with fail
              refine (ruz _ RW _ _ _ (by omega) (HRW.out.keep HC9.out) HRWL.out).mono ?_
              rintro e w10 ⟨ao10, cap10, rfl, h1, h2⟩
              rw [HE.out, HU.out] at *
              have HC10 := Lib.hid (HC9.out.trans h1 (by simp))
              have HX10 := Lib.hid (HX9.out.keep h1)
              have HY10 := Lib.hid h2
              clear h1 h2
              go_wp2_with fail
              refine (numbers_any _ _ U _ HX10.out HY10.out).mono ?_
              rintro e w11 ⟨rfl, h1⟩
              have HC11 := Lib.hid (HC10.out.trans h1 (by simp))
              clear h1
              go_wp2
              go_ret
              exact ⟨rfl, HC11.out.below (Nat.le_refl _) (by simp)⟩

end Go.Proofs.Ytkjgebijhhfknaa
