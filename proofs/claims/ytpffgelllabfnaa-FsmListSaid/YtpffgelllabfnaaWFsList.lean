/- FsmList. -/
import Derived.Test.YtpffgelllabfnaaGh
import Derived.Test.YtpffgelllabfnaaRc
import Derived.Test.YtpffgelllabfnaaA5
namespace Go.Proofs.Ytpffgelllabfnaa
open Go.RowKit
set_option linter.unusedVariables false
set_option linter.unusedSimpArgs false

set_option maxRecDepth 100000 in
set_option maxHeartbeats 4000000 in
theorem walk_FsmList (a0 a1 : Int) (w : World) (w0 : (Lit.int .i64 a0).wf = true) (w1 : (Lit.int .i64 a1).wf = true) :
    Calls Try.prog 8 #[.int .i64 a0, .int .i64 a1] w fun e w' => e = .returned (.bool true) ∧ Below w.heap.size w w' := by
  obtain ⟨i0, hi, hz0, hz1, hz2⟩ := info_field
  have HW := Lib.hid w0; have HW1 := Lib.hid w1
  clear w0 w1
  go_enter Try.func8, Try.ntmps8
  go_wp2_with fail
  refine (known15_any _).mono ?_
  rintro e wA ⟨rfl, hk⟩
  have HK1 := Lib.hid hk
  clear hk
  go_wp2_with fail
  refine (w15_int a0 9 9 wA rfl (by omega) (by omega) HW.out).mono ?_
  rintro e wA' ⟨rfl, rfl⟩
  obtain ⟨q, hq⟩ : ∃ q, q = (a0 % ((9 : Nat) : Int)).toNat := ⟨_, rfl⟩
  have hq9 : q < 9 := by omega
  rw [← hq]
  clear hq
  go_wp2_with fail
  refine (w15_int a1 5 5 wA rfl (by omega) (by omega) HW1.out).mono ?_
  rintro e wA' ⟨rfl, rfl⟩
  obtain ⟨M, hM⟩ : ∃ M, M = (a1 % ((5 : Nat) : Int)).toNat := ⟨_, rfl⟩
  have hM5 : M < 5 := by omega
  rw [← hM]
  clear hM
  obtain ⟨N, hN⟩ : ∃ N, N = q + 1 := ⟨_, rfl⟩
  have hN10 : N < 10 := by omega
  have hN1 : 1 ≤ N := by omega
  have hqN : 1 + (q : Int) = (N : Int) := by omega
  obtain ⟨ok1, ok2, ok3, ok4⟩ := ls_ok N hN10 hN1 M hM5
  have HNX := Lib.hid (fun sv wx (hs : SeenF wx sv (ls N M)) => next_any sv (ls N M) wx hs ok1 (fun f hf => by have := ok4 f hf; omega) (fun f hf => by have := ok4 f hf; omega))
  have HCK := Lib.hid (fun sv wx (hs : SeenF wx sv (ls N M)) => rcheck_any sv (ls N M) wx hs (fun f hf => by have := ok4 f hf; omega) (fun f hf => by have := ok4 f hf; omega))
  rw [refChk_eq, ok1] at HCK
  obtain ⟨X, hX⟩ : ∃ X, X = nextL (trs (ls N M)) := ⟨_, rfl⟩
  rw [← hX] at HNX ok2 ok3
  have HGT := Lib.hid ok3; have HXL := Lib.hid ok2
  have HOS := Lib.hid (own_lit wA wA.heap.size wA.heap.size rfl (Nat.le_refl _) 46 #[.string { data := #[109] }, .int .i64 0, .int .i64 0, .int .i64 (1 + (M : Int)), .string { data := #[103] }, .int .i64 2, .int .i64 0, .int .i64 (N : Int)] ((lsTo N M 0 0).flatMap F.cs) 2 4 rfl rfl (by decide))
  clear ok1 ok2 ok3 ok4 hN hX
  go_wp2
  go_loopw [5, 6] (fun sv x w' => ∃ k : Nat, x = .int .i64 (k : Int) ∧ k ≤ N ∧ Chg [] wA w' ∧ w'.ownsRow wA.heap.size 46 4 sv (k + 2) ((lsTo N M k 0).flatMap F.cs)) (fun _ x _ => N - (intOf x).toNat)
  case atStart => exact ⟨0, rfl, Nat.zero_le _, (Chg.refl [] wA).alloc _, HOS.out⟩
  case round =>
    obtain ⟨k, rfl, hk, hc, ho⟩ := hrel
    have HB := Lib.hid hc.size
    obtain ⟨so, sc, rfl⟩ := own_shape ho
    have HC := Lib.hid hc; have HO := Lib.hid ho
    clear hc ho
    by_cases hlt : k < N
    · have g0 : (k : Int) < (N : Int) := by omega
      have hu8 : IntKind.u8.wrap (97 + (k : Int)) = 97 + (k : Int) := u8_97 97 k (by omega)
      have hcv : (convert 48 9 (.slice (some ⟨wr.heap.size, 0, none⟩) 1 1)).run Try.prog (wr.alloc (.cells #[.int .u8 (97 + (k : Int))] 5)) = .ok (.string (str [97 + k])) (wr.alloc (.cells #[.int .u8 (97 + (k : Int))] 5)) := cv_one (c := 97 + k) (hl_new rfl) (by omega) (by omega)
      have HM2 := Lib.hid (show k + 2 + 1 ≤ maxLen by unfold maxLen; omega)
      have HM3 := Lib.hid (show (k + 2 + 1) * 40 ≤ 140737488355328 by omega)
      go_wp2_with (first
        | (at_builtin; refine wpList_append_at _ rfl (.tmp 29) (.tmp 36) _ rfl wA.heap.size 46 i0 (.agg #[.string ByteArray.empty, .int .i64 0, .int .i64 0, .int .i64 0]) 4 40 Try.underlying25 hi hz0 hz1 hz2 rfl (by omega) (.slice so (k + 2) sc) (k + 2) _ rfl ((HO.out.alloc _).alloc _) ⟨wr.heap.size + 1, 0, none⟩ 1 1 (F.cs ⟨str [97 + k], 0, 1, 0⟩) rfl rfl (new_cells (C := #[.string (str [97 + k]), .int .i64 0, .int .i64 1, .int .i64 0]) _ (by simp)) (F.one _) HM2.out HM3.out (le_alloc (le_alloc HB.out _) _) ?_; intro v2 w6 hown2 hg2 hat2; obtain ⟨a4, c4, rfl⟩ := own_shape hown2; have HO2 := Lib.hid hown2; have HC6 := Lib.hid (((HC.out.alloc _).alloc _).grown hg2 (fun k hk => .inr (own_ge HO.out k hk))); clear hown2 hg2 hat2)
        | fail)
      go_roundw
      case rel =>
        refine ⟨k + 1, by go_num, by omega, HC6.out, ?_⟩
        have h := HO2.out
        have e : lsTo N M (k + 1) 0 = lsTo N M k 0 ++ [⟨str [97 + k], 0, 1, 0⟩] := by simp [lsTo, List.range_succ]
        rw [e, List.flatMap_append]
        simpa using h
      case measure => simp [intOf]; omega
    · have g0 : ¬ ((k : Int) < (N : Int)) := by omega
      have ek : k = N := by omega
      have hO := HO.out
      rw [ek] at hO
      have HO1 := Lib.hid (show wr.ownsRow wA.heap.size 46 4 (.slice so (k + 2) sc) (N + 0 + 2) ((lsTo N M N 0).flatMap F.cs) by rw [ek]; exact hO)
      have HC1 := HC
      clear hO ek HC HB
      go_wp2
      go_loopw [5, 7] (fun sv x w' => ∃ k : Nat, x = .int .i64 (k : Int) ∧ k ≤ M ∧ Chg [] wA w' ∧ w'.ownsRow wA.heap.size 46 4 sv (N + k + 2) ((lsTo N M N k).flatMap F.cs)) (fun _ x _ => M - (intOf x).toNat)
      case atStart => exact ⟨0, rfl, Nat.zero_le _, HC1.out, HO1.out⟩
      case round =>
        obtain ⟨k, rfl, hk, hc, ho⟩ := hrel
        have HB := Lib.hid hc.size
        obtain ⟨so, sc, rfl⟩ := own_shape ho
        have HC := Lib.hid hc; have HO := Lib.hid ho
        clear hc ho
        by_cases hlt : k < M
        · have g0 : (k : Int) < (M : Int) := by omega
          have hu8 : IntKind.u8.wrap (112 + (k : Int)) = 112 + (k : Int) := u8_97 112 k (by omega)
          have hcv : (convert 48 9 (.slice (some ⟨wr.heap.size, 0, none⟩) 1 1)).run Try.prog (wr.alloc (.cells #[.int .u8 (112 + (k : Int))] 5)) = .ok (.string (str [112 + k])) (wr.alloc (.cells #[.int .u8 (112 + (k : Int))] 5)) := cv_one (c := 112 + k) (hl_new rfl) (by omega) (by omega)
          have HM2 := Lib.hid (show N + k + 2 + 1 ≤ maxLen by unfold maxLen; omega)
          have HM3 := Lib.hid (show (N + k + 2 + 1) * 40 ≤ 140737488355328 by omega)
          go_wp2_with (first
            | (at_builtin; refine wpList_append_at _ rfl (.tmp 43) (.tmp 50) _ rfl wA.heap.size 46 i0 (.agg #[.string ByteArray.empty, .int .i64 0, .int .i64 0, .int .i64 0]) 4 40 Try.underlying25 hi hz0 hz1 hz2 rfl (by omega) (.slice so (N + k + 2) sc) (N + k + 2) _ rfl ((HO.out.alloc _).alloc _) ⟨wr.heap.size + 1, 0, none⟩ 1 1 (F.cs ⟨str [112 + k], 0, 1, 0⟩) rfl rfl (new_cells (C := #[.string (str [112 + k]), .int .i64 0, .int .i64 1, .int .i64 0]) _ (by simp)) (F.one _) HM2.out HM3.out (le_alloc (le_alloc HB.out _) _) ?_; intro v2 w6 hown2 hg2 hat2; obtain ⟨a4, c4, rfl⟩ := own_shape hown2; have HO2 := Lib.hid hown2; have HC6 := Lib.hid (((HC.out.alloc _).alloc _).grown hg2 (fun k hk => .inr (own_ge HO.out k hk))); clear hown2 hg2 hat2)
            | fail)
          go_roundw
          case rel =>
            refine ⟨k + 1, by go_num, by omega, HC6.out, ?_⟩
            have h := HO2.out
            have e : lsTo N M N (k + 1) = lsTo N M N k ++ [⟨str [112 + k], 0, 1, 0⟩] := by simp [lsTo, List.range_succ]
            rw [show N + (k + 1) + 2 = N + k + 2 + 1 by omega, e, List.flatMap_append]
            simpa using h
          case measure => simp [intOf]; omega
        · have g0 : ¬ ((k : Int) < (M : Int)) := by omega
          have ek : k = M := by omega
          have hO := HO.out
          rw [ek] at hO
          have HSF := Lib.hid (show SeenF wr (.slice so (N + k + 2) sc) (ls N M) from SeenF.own (by rw [ek]; exact hO) (by simp [ls, lsTo]))
          clear hO ek
          go_wp2_with fail
          refine (HNX.out _ wr HSF.out).mono ?_
          rintro e w1 ⟨nv', rfl, hr, hk1⟩
          obtain ⟨no, nc, rfl, hn1, hn2⟩ := hr.shape
          rw [HXL.out] at hn1 hr ⊢
          have HR := Lib.hid hr
          have HCW := Lib.hid (HC.out.trans hk1 (by simp)); have HSF1 := Lib.hid (HSF.out.keep hk1)
          clear hr hk1
          go_wp2_with fail
          refine (HCK.out _ w1 HSF1.out).mono ?_
          rintro e w2 ⟨rfl, hk1⟩
          have HCX := Lib.hid (HCW.out.trans hk1 (by simp)); have HR2 := Lib.hid (HR.out.keep hk1)
          have q1 : ((N : Int) + (M : Int) != (N : Int) + (M : Int)) = false := by simp
          clear hk1
          go_wp2
          go_loopw [9, 10] (fun x _ w' => ∃ i : Nat, x = .int .i64 (i : Int) ∧ i ≤ N ∧ Chg [] w2 w') (fun x _ _ => N - (intOf x).toNat)
          case atStart => exact ⟨0, rfl, Nat.zero_le _, Chg.refl _ _⟩
          case round =>
            obtain ⟨i, rfl, hiN, hci⟩ := hrel
            have HCI := Lib.hid hci
            clear hci
            by_cases hil : i < N
            · have g1 : (i : Int) < (N : Int) := by omega
              obtain ⟨ng, noff, rfl, hat⟩ := HR2.out.get (by omega) HXL.out
              obtain ⟨xo, xc, x1, x2, x3, x4⟩ := hat i (by omega)
              rw [HGT.out i hil] at x1 x2 x4
              obtain ⟨v, hv⟩ : ∃ v, v = (if i + 1 = N then 0 else i + 1) := ⟨_, rfl⟩
              rw [← hv] at x1 x2 x4
              obtain ⟨xg, xoff, rfl, hx⟩ := x4.at0 rfl (by simp)
              have y0 : wr.cell? ⟨xg, xoff, none⟩ = some (.int .i64 ((i + 1 : Nat) : Int)) := HCI.out.cell (hx 0 (by simp)) (by simp)
              have y1 : wr.cell? ⟨xg, xoff + 1, none⟩ = some (.int .i64 (v : Int)) := HCI.out.cell (hx 1 (by simp)) (by simp)
              have z1 : wr.cell? ⟨ng, noff + i, none⟩ = some (.slice (some ⟨xg, xoff, none⟩) 2 xc) := HCI.out.cell x1 (by simp)
              have e1 : (((i + 1 : Nat) : Int) != (i : Int) + 1) = false := by simp
              clear hat x1 x4 hx x2
              by_cases hl : i + 1 = N
              · have e3 : ((i : Int) == (N : Int) - 1) = true := by simp; omega
                have hv0 : v = 0 := by rw [hv, if_pos hl]
                subst hv0
                clear hl
                clear hv
                go_wp2
                go_roundw
                case rel => exact ⟨i + 1, by go_num, by omega, HCI.out⟩
                case measure => simp [intOf]; omega
              · have e3 : ((i : Int) == (N : Int) - 1) = false := by simp; omega
                have hv0 : v = i + 1 := by rw [hv, if_neg hl]
                have e4 : ((v : Int) != (i : Int) + 1) = false := by simp; omega
                clear hv
                go_wp2
                go_roundw
                case rel => exact ⟨i + 1, by go_num, by omega, HCI.out⟩
                case measure => simp [intOf]; omega
            · have g1 : ¬ ((i : Int) < (N : Int)) := by omega
              go_wp2
              go_ret
              exact ⟨rfl, ((HK1.out.trans HCX.out (by simp)).trans HCI.out (by simp)).below (Nat.le_refl _) (by simp)⟩

end Go.Proofs.Ytpffgelllabfnaa
