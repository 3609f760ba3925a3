/- The walk of the statement TextTight. -/
import Derived.Test.YtofnpcfclcfgfaaWBlanks
namespace Go.Proofs.Ytofnpcfclcfgfaa
open Go.RowKit
set_option linter.unusedVariables false

def bkB (c : Nat) : Bool := decide (c = 32) || decide (c = 10)
def lsB (l : List Nat) : Bool := match l.getLast? with | none => true | some x => stnB x || decide (x = 32)
def nxB (l : List Nat) (i : Nat) : Bool := match l[i + 1]? with | none => false | some x => stnB x

/-- Behind a sign or a blank no word goes on. -/
theorem run_last {l : List Nat} (h : lsB l = true) : wrun w0 l = none ∨ ∃ ws, wrun w0 l = some (ws, []) := by
  unfold lsB at h
  cases hl : l.getLast? with
  | none => rw [List.getLast?_eq_none_iff] at hl; subst hl; exact .inr ⟨[], rfl⟩
  | some x =>
    rw [hl] at h
    obtain ⟨t, rfl⟩ := List.getLast?_eq_some_iff.1 hl
    rw [wrun_append]
    cases wrun w0 t with
    | none => left; rfl
    | some p =>
      obtain ⟨ws, cur⟩ := p
      right
      simp only [Bool.or_eq_true, decide_eq_true_eq] at h
      rcases h with h | h
      · have hs : sgnB x = false := by
          unfold stnB at h
          simp at h
          rcases h with rfl | rfl | rfl <;> decide
        exact ⟨_, by rw [wrun_cons, wst_stn hs h]; rfl⟩
      · subst h
        exact ⟨_, by rw [wrun_cons, wst_blk (by decide) (by decide) (by decide)]; rfl⟩

theorem skip_last {l r : List Nat} {c : Nat} (hl : lsB l = true) (hc : c = 32 ∨ c = 10) : wrun w0 (l ++ c :: r) = wrun w0 (l ++ r) := by
  rw [wrun_append, wrun_append, wrun_cons, blk_same (c := c) (by omega)]
  rcases run_last hl with h | ⟨ws, h⟩
  · rw [h]; rfl
  · rw [h, wst_blk (by decide) (by decide) (by decide)]
    simp [flush]

theorem skip_next {l r : List Nat} {c s : Nat} (hs : stnB s = true) (hc : c = 32 ∨ c = 10) : wrun w0 (l ++ c :: s :: r) = wrun w0 (l ++ s :: r) := by
  have hg : sgnB s = false := by
    unfold stnB at hs
    simp at hs
    rcases hs with rfl | rfl | rfl <;> decide
  rw [wrun_append, wrun_append, wrun_cons, wrun_cons, wrun_cons, blk_same (c := c) (by omega)]
  cases wrun w0 l with
  | none => rfl
  | some p =>
    obtain ⟨ws, cur⟩ := p
    rw [wst_blk (c := 32) (by decide) (by decide) (by decide), wst_stn hg hs, wst_stn hg hs]
    simp [flush]

theorem keep_blk {l r : List Nat} {c : Nat} (hc : c = 32 ∨ c = 10) : wrun w0 (l ++ c :: r) = wrun w0 ((l ++ [32]) ++ r) := by
  rw [List.append_assoc, wrun_append, wrun_append, wrun_cons, blk_same (c := c) (by omega)]
  rfl

theorem drop_at {l : List Nat} {i c : Nat} (h : l[i]? = some c) : l.drop i = c :: l.drop (i + 1) := by
  have hi := (List.getElem?_eq_some_iff.1 h).1
  rw [List.drop_eq_getElem_cons hi]
  rw [List.getElem?_eq_getElem hi] at h
  injection h with h
  rw [h]

set_option maxRecDepth 100000 in
set_option maxHeartbeats 4000000 in
theorem walk_TextTight (a0 : Option Addr) (len0 cap0 : Nat) (z0 : List Int) (w : World) (w0 : IsRow .i64 w a0 len0 cap0 z0) :
    Calls Try.prog 7 #[.slice a0 len0 cap0] w fun e w' => e = .returned (.bool true) ∧ Below w.heap.size w w' := by
  obtain ⟨ns, hS, hlen, hwf⟩ := w0.seenI
  have HS := Lib.hid hS; have HWF := Lib.hid hwf
  clear w0 hS hwf hlen
  obtain ⟨r, fo, hF⟩ := mkF ns
  have HF := Lib.hid hF
  have hts := hF.size
  obtain ⟨l, hl⟩ : ∃ l, l = r :: fo.flat := ⟨_, rfl⟩
  have HPS := Lib.hid (fun (x : ByteArray) (h1 : x.size ≤ 4000) (h2 : wrun w0 (bl x) = wrun w0 (bl (txtR r fo))) => hF.parse (l := bl x) (by rw [bl_length]; exact h1) (wordsL_done (h2.trans hF.run)))
  have HEQ := Lib.hid hF.eq
  rw [← hl] at HPS HEQ
  clear hF hl
  go_enter Try.func7, Try.ntmps7
  go_wp2_with fail
  (with_reducible refine (known6_any _).mono ?_)
  rintro e wa ⟨rfl, hk⟩
  have HK1 := Lib.hid hk
  clear hk
  go_wp2_with fail
  (with_reducible refine (make_any _ ns _ (HS.out.keep HK1.out) HWF.out).mono ?_)
  rintro e wb ⟨sv, rfl, hown, hk⟩
  have hSv := SeenF.own hown rfl
  obtain ⟨sa, sc, rfl⟩ := own_shape hown
  have HSF := Lib.hid hSv
  have HK2 := Lib.hid (HK1.out.trans hk (by simp))
  clear hown hSv hk
  go_wp2_with fail
  (with_reducible refine (rPrint_any ns r fo HF.out _ _ HSF.out).mono ?_)
  rintro e wc ⟨rfl, hk⟩
  have HK3 := Lib.hid (HK2.out.trans hk (by simp))
  have HSC := Lib.hid (show SeenF wc (.slice sa (mk ns).length sc) l by rw [← HEQ.out]; exact HSF.out.keep hk)
  clear hk
  obtain ⟨T, hT⟩ : ∃ T, T = txtR r fo := ⟨_, rfl⟩
  rw [← hT] at hts HPS ⊢
  clear hT
  go_wp2
  go_loop [5, 6] (fun s5 s6 => ∃ (out : ByteArray) (i : Nat), s5 = .string out ∧ s6 = .int .i64 (i : Int) ∧ i ≤ T.size ∧ out.size ≤ i ∧ wrun w0 (bl out ++ (bl T).drop i) = wrun w0 (bl T)) (fun _ s6 => T.size - (intOf s6).toNat)
  case atStart => exact ⟨{ data := #[] }, 0, rfl, rfl, Nat.zero_le _, Nat.le_refl _, rfl⟩
  case round =>
    obtain ⟨out, i, rfl, rfl, hi, hos, hrun⟩ := hrel
    have HRU := Lib.hid hrun
    clear hrun
    by_cases hlt : i < T.size
    · obtain ⟨c, hc⟩ : ∃ c, (T[i]'hlt).toNat = c := ⟨_, rfl⟩
      have hbc : (bl T)[i]? = some c := by rw [bl_get T i hlt, hc]
      have HDR := Lib.hid (drop_at hbc)
      have HBC := Lib.hid hbc
      clear hbc
      go_upto_region 10 with fail
      go_cut [8] (fun s8 wx => s8 = .bool (bkB c) ∧ wx = wc)
      case first =>
        have hways : ((c : Int) == 32) = true ∧ bkB c = true ∨ ((c : Int) == 32) = false ∧ ((c : Int) == 10) = true ∧ bkB c = true ∨ ((c : Int) == 32) = false ∧ ((c : Int) == 10) = false ∧ bkB c = false := by
          by_cases h1 : c = 32
          · exact .inl ⟨by simp [h1], by simp [bkB, h1]⟩
          · by_cases h2 : c = 10
            · exact .inr (.inl ⟨by simp [h2], by simp [h2], by simp [bkB, h2]⟩)
            · exact .inr (.inr ⟨by simp; omega, by simp; omega, by simp [bkB, h1, h2]⟩)
        rcases hways with ⟨q1, hq⟩ | ⟨q1, q2, hq⟩ | ⟨q1, q2, hq⟩
        all_goals
          have E := Lib.hid hq
          clear hq
          go_wp2_with fail
          go_meet
          case rel => exact ⟨by rw [E.out], rfl⟩
      case rest =>
        obtain ⟨rfl, hwx⟩ := hcut
        subst hwx
        go_upto_region 11 with fail
        go_cut [9] (fun s9 wx => s9 = .bool (lsB (bl out)) ∧ wx = wc)
        case first =>
          by_cases h0 : out.size = 0
          · have E := Lib.hid (show lsB (bl out) = true by
              have : bl out = [] := List.eq_nil_of_length_eq_zero (by rw [bl_length]; exact h0)
              rw [this]; rfl)
            have q0 : ((out.size : Int) == 0) = true := by simpa using h0
            clear h0
            go_wp2_with fail
            go_meet
            case rel => exact ⟨by rw [E.out], rfl⟩
          · have q0 : ((out.size : Int) == 0) = false := by simpa using h0
            have hp : out.size - 1 < out.size := by omega
            obtain ⟨x, hx⟩ : ∃ x, (out[out.size - 1]'hp).toNat = x := ⟨_, rfl⟩
            have E := Lib.hid (show lsB (bl out) = (stnB x || decide (x = 32)) by
              unfold lsB
              rw [List.getLast?_eq_getElem?, bl_length, bl_get out (out.size - 1) hp, hx])
            have h0' : 0 < out.size := by omega
            have hways : ((x : Int) == 123) = true ∧ (stnB x || decide (x = 32)) = true ∨ ((x : Int) == 123) = false ∧ ((x : Int) == 125) = true ∧ (stnB x || decide (x = 32)) = true ∨ ((x : Int) == 123) = false ∧ ((x : Int) == 125) = false ∧ ((x : Int) == 59) = true ∧ (stnB x || decide (x = 32)) = true ∨
                ((x : Int) == 123) = false ∧ ((x : Int) == 125) = false ∧ ((x : Int) == 59) = false ∧ ((x : Int) == 32) = true ∧ (stnB x || decide (x = 32)) = true ∨ ((x : Int) == 123) = false ∧ ((x : Int) == 125) = false ∧ ((x : Int) == 59) = false ∧ ((x : Int) == 32) = false ∧ (stnB x || decide (x = 32)) = false := by
              simp only [beq_iff_eq, beq_eq_false_iff_ne, ne_eq, Bool.or_eq_true, Bool.or_eq_false_iff, stnB, decide_eq_true_eq, decide_eq_false_iff_not]
              omega
            clear h0
            rcases hways with ⟨q1, hq⟩ | ⟨q1, q2, hq⟩ | ⟨q1, q2, q3, hq⟩ | ⟨q1, q2, q3, q4, hq⟩ | ⟨q1, q2, q3, q4, hq⟩
            all_goals
              rw [hq] at E
              clear hq
              go_wp2_with fail
              go_meet
              case rel => exact ⟨by rw [E.out], rfl⟩
        case rest =>
          obtain ⟨rfl, hwx⟩ := hcut
          subst hwx
          go_upto_region 12 with fail
          go_cut [10] (fun s10 wx => s10 = .bool (nxB (bl T) i) ∧ wx = wc)
          case first =>
            by_cases h1 : i + 1 < T.size
            · obtain ⟨x, hx⟩ : ∃ x, (T[i + 1]'h1).toNat = x := ⟨_, rfl⟩
              have E := Lib.hid (show nxB (bl T) i = stnB x by
                unfold nxB
                rw [bl_get T (i + 1) h1, hx])
              have hways : ((x : Int) == 123) = true ∧ stnB x = true ∨ ((x : Int) == 123) = false ∧ ((x : Int) == 125) = true ∧ stnB x = true ∨ ((x : Int) == 123) = false ∧ ((x : Int) == 125) = false ∧ ((x : Int) == 59) = true ∧ stnB x = true ∨
                  ((x : Int) == 123) = false ∧ ((x : Int) == 125) = false ∧ ((x : Int) == 59) = false ∧ stnB x = false := by
                simp only [beq_iff_eq, beq_eq_false_iff_ne, ne_eq, Bool.or_eq_true, Bool.or_eq_false_iff, stnB, decide_eq_true_eq, decide_eq_false_iff_not]
                omega
              rcases hways with ⟨q1, hq⟩ | ⟨q1, q2, hq⟩ | ⟨q1, q2, q3, hq⟩ | ⟨q1, q2, q3, hq⟩
              all_goals
                rw [hq] at E
                clear hq
                go_wp2_with fail
                go_meet
                case rel => exact ⟨by rw [E.out], rfl⟩
            · have E := Lib.hid (show nxB (bl T) i = false by
                unfold nxB
                rw [List.getElem?_eq_none (by rw [bl_length]; omega)])
              go_wp2_with fail
              go_meet
              case rel => exact ⟨by rw [E.out], rfl⟩
          case rest =>
            obtain ⟨rfl, hwx⟩ := hcut
            subst hwx
            have hes : (T.extract i (i + 1)).size = 1 := by rw [ByteArray.size_extract]; omega
            have HEB := Lib.hid (bl_one_at T i c HBC.out)
            cases hb1 : bkB c
            case false =>
              have q1 : ((c : Int) == 10) = false := by
                unfold bkB at hb1
                simp at hb1
                simp; omega
              clear hb1
              go_wp2
              go_round
              case rel =>
                refine ⟨out ++ T.extract i (i + 1), i + 1, rfl, by go_num, by omega, by rw [ByteArray.size_append]; omega, ?_⟩
                rw [bl_append, HEB.out, List.append_assoc, List.singleton_append, ← HDR.out]
                exact HRU.out
              case measure => simp [intOf]; omega
            case true =>
              have hcc : c = 32 ∨ c = 10 := by
                unfold bkB at hb1
                simpa using hb1
              have HCC := Lib.hid hcc
              clear hb1
              cases hb2 : lsB (bl out)
              case true =>
                have HB2 := Lib.hid hb2
                clear hb2 hcc
                go_wp2
                go_round
                case rel =>
                  refine ⟨out, i + 1, rfl, by go_num, by omega, by omega, ?_⟩
                  rw [← skip_last HB2.out HCC.out, ← HDR.out]
                  exact HRU.out
                case measure => simp [intOf]; omega
              case false =>
                cases hb3 : nxB (bl T) i
                case true =>
                  have HB3 := Lib.hid (show ∃ s, (bl T)[i + 1]? = some s ∧ stnB s = true by
                    unfold nxB at hb3
                    cases h : (bl T)[i + 1]? with
                    | none => rw [h] at hb3; cases hb3
                    | some s => rw [h] at hb3; exact ⟨s, rfl, hb3⟩)
                  clear hb2 hb3 hcc
                  go_wp2
                  go_round
                  case rel =>
                    refine ⟨out, i + 1, rfl, by go_num, by omega, by omega, ?_⟩
                    obtain ⟨s, hs, hs2⟩ := HB3.out
                    have h := HRU.out
                    rw [HDR.out, drop_at hs, skip_next hs2 HCC.out] at h
                    rw [drop_at hs]
                    exact h
                  case measure => simp [intOf]; omega
                case false =>
                  clear hb2 hb3
                  by_cases h10 : c = 10
                  · have q1 : ((c : Int) == 10) = true := by simp [h10]
                    clear h10 hcc
                    go_wp2
                    go_round
                    case rel =>
                      refine ⟨out ++ { data := #[32] }, i + 1, rfl, by go_num, by omega, by rw [ByteArray.size_append]; show out.size + 1 ≤ i + 1; omega, ?_⟩
                      have h := HRU.out
                      rw [HDR.out, keep_blk HCC.out] at h
                      rw [bl_append]
                      exact h
                    case measure => simp [intOf]; omega
                  · have q1 : ((c : Int) == 10) = false := by simp; omega
                    clear h10 hcc
                    go_wp2
                    go_round
                    case rel =>
                      refine ⟨out ++ T.extract i (i + 1), i + 1, rfl, by go_num, by omega, by rw [ByteArray.size_append]; omega, ?_⟩
                      rw [bl_append, HEB.out, List.append_assoc, List.singleton_append, ← HDR.out]
                      exact HRU.out
                    case measure => simp [intOf]; omega
    · have hie : i = T.size := by omega
      have hpa := parse_any out wc (by omega)
      rw [HPS.out out (by omega) (by have h := HRU.out; rw [hie, List.drop_of_length_le (by rw [bl_length]; omega), List.append_nil] at h; exact h)] at hpa
      have HPA := Lib.hid hpa
      clear hie hpa
      go_wp2_with fail
      (with_reducible refine HPA.out.mono ?_)
      rintro e wd ⟨hk, hout⟩
      have HC2 := Lib.hid hk
      clear hk
      rcases hout with ⟨-, v, rfl, hown⟩ | ⟨h0, -⟩
      · have hSx := SeenF.own hown rfl
        obtain ⟨xa, xc, rfl⟩ := own_shape hown
        have HSX := Lib.hid hSx
        clear hown hSx
        go_wp2_with fail
        (with_reducible refine (rsame_any _ _ _ _ HSX.out (HSC.out.keep HC2.out)).mono ?_)
        rintro e we ⟨rfl, hk⟩
        have HC3 := Lib.hid ((HK3.out.trans HC2.out (by simp)).trans hk (by simp))
        clear hk
        go_wp2
        go_ret
        exact ⟨by simp, HC3.out.below (Nat.le_refl _) (by simp)⟩
      · exact absurd rfl h0

end Go.Proofs.Ytofnpcfclcfgfaa
