/- FsmAlone. -/
import Derived.Test.YtpffgelllabfnaaGh
namespace Go.Proofs.Ytpffgelllabfnaa
open Go.RowKit
set_option linter.unusedVariables false
set_option linter.unusedSimpArgs false

set_option maxRecDepth 100000 in
set_option maxHeartbeats 4000000 in
theorem walk_FsmAlone (a0 : Int) (w : World) (w0 : (Lit.int .i64 a0).wf = true) :
    Calls Try.prog 9 #[.int .i64 a0] w fun e w' => e = .returned (.bool true) ∧ Below w.heap.size w w' := by
  obtain ⟨i0, hi, hz0, hz1, hz2⟩ := info_field
  have HW := Lib.hid w0
  clear w0
  go_enter Try.func9, Try.ntmps9
  go_wp2_with fail
  refine (known15_any _).mono ?_
  rintro e wA ⟨rfl, hk⟩
  have HK1 := Lib.hid hk
  clear hk
  go_wp2_with fail
  refine (w15_int a0 9 9 wA rfl (by omega) (by omega) HW.out).mono ?_
  rintro e wA' ⟨rfl, rfl⟩
  obtain ⟨q, hq⟩ : ∃ q, q = (a0 % ((9 : Nat) : Int)).toNat := ⟨_, rfl⟩
  have hq9 : q < 9 := by omega
  rw [← hq]
  clear hq
  obtain ⟨N, hN⟩ : ∃ N, N = q + 1 := ⟨_, rfl⟩
  have hN10 : N < 10 := by omega
  have hN1 : 1 ≤ N := by omega
  have hqN : 1 + (q : Int) = (N : Int) := by omega
  obtain ⟨ok1, ok2, ok3⟩ := al_ok N hN10 hN1
  have HNX := Lib.hid (fun sv wx (hs : SeenF wx sv (al N)) => next_any sv (al N) wx hs ok1 (fun f hf => by have := ok3 f hf; omega) (fun f hf => by have := ok3 f hf; omega))
  rw [ok2] at HNX
  have HOS := Lib.hid (own_lit wA wA.heap.size wA.heap.size rfl (Nat.le_refl _) 46 #[.string { data := #[109] }, .int .i64 0, .int .i64 0, .int .i64 (N : Int)] (F.cs ⟨{ data := #[109] }, 0, 0, (N : Int)⟩) 1 4 rfl rfl (by decide))
  clear ok1 ok2 ok3 hN
  go_wp2
  go_loopw [3, 4] (fun sv x w' => ∃ k : Nat, x = .int .i64 (k : Int) ∧ k ≤ N ∧ Chg [] wA w' ∧ w'.ownsRow wA.heap.size 46 4 sv (k + 1) ((alTo N k).flatMap F.cs)) (fun _ x _ => N - (intOf x).toNat)
  case atStart => exact ⟨0, rfl, Nat.zero_le _, (Chg.refl [] wA).alloc _, HOS.out⟩
  case round =>
    obtain ⟨k, rfl, hk, hc, ho⟩ := hrel
    have HB := Lib.hid hc.size
    obtain ⟨so, sc, rfl⟩ := own_shape ho
    have HC := Lib.hid hc; have HO := Lib.hid ho
    clear hc ho
    by_cases hlt : k < N
    · have g0 : (k : Int) < (N : Int) := by omega
      have hu8 : IntKind.u8.wrap (97 + (k : Int)) = 97 + (k : Int) := u8_97 97 k (by omega)
      have hcv : (convert 48 9 (.slice (some ⟨wr.heap.size, 0, none⟩) 1 1)).run Try.prog (wr.alloc (.cells #[.int .u8 (97 + (k : Int))] 5)) = .ok (.string (str [97 + k])) (wr.alloc (.cells #[.int .u8 (97 + (k : Int))] 5)) := cv_one (c := 97 + k) (hl_new rfl) (by omega) (by omega)
      have HM2 := Lib.hid (show k + 1 + 1 ≤ maxLen by unfold maxLen; omega)
      have HM3 := Lib.hid (show (k + 1 + 1) * 40 ≤ 140737488355328 by omega)
      go_wp2_with (first
        | (at_builtin; refine wpList_append_at _ rfl (.tmp 20) (.tmp 27) _ rfl wA.heap.size 46 i0 (.agg #[.string ByteArray.empty, .int .i64 0, .int .i64 0, .int .i64 0]) 4 40 Try.underlying25 hi hz0 hz1 hz2 rfl (by omega) (.slice so (k + 1) sc) (k + 1) _ rfl ((HO.out.alloc _).alloc _) ⟨wr.heap.size + 1, 0, none⟩ 1 1 (F.cs ⟨str [97 + k], 2, 2, 0⟩) rfl rfl (new_cells (C := #[.string (str [97 + k]), .int .i64 2, .int .i64 2, .int .i64 0]) _ (by simp)) (F.one _) HM2.out HM3.out (le_alloc (le_alloc HB.out _) _) ?_; intro v2 w6 hown2 hg2 hat2; obtain ⟨a4, c4, rfl⟩ := own_shape hown2; have HO2 := Lib.hid hown2; have HC6 := Lib.hid (((HC.out.alloc _).alloc _).grown hg2 (fun k hk => .inr (own_ge HO.out k hk))); clear hown2 hg2 hat2)
        | fail)
      go_roundw
      case rel =>
        refine ⟨k + 1, by go_num, by omega, HC6.out, ?_⟩
        have h := HO2.out
        unfold alTo at h ⊢
        rw [List.range_succ, List.map_append, ← List.cons_append, List.flatMap_append]
        simpa using h
      case measure => simp [intOf]; omega
    · have g0 : ¬ ((k : Int) < (N : Int)) := by omega
      have ek : k = N := by omega
      have hO := HO.out
      rw [ek] at hO
      have HSF := Lib.hid (show SeenF wr (.slice so (k + 1) sc) (al N) from SeenF.own (by rw [ek]; exact hO) (by simp [al, alTo]))
      clear hO ek
      go_wp2_with fail
      refine (HNX.out _ wr HSF.out).mono ?_
      rintro e w1 ⟨nv', rfl, hr, hk1⟩
      obtain ⟨no, nc, rfl, hn1, hn2⟩ := hr.shape
      rw [List.length_map, List.length_range] at hn1 hr ⊢
      have HR := Lib.hid hr
      have HCW := Lib.hid (HC.out.trans hk1 (by simp))
      have q1 : ((N : Int) != (N : Int)) = false := by simp
      clear hr hk1
      go_wp2
      go_loopw [6] (fun x w' => ∃ i : Nat, x = .int .i64 (i : Int) ∧ i ≤ N ∧ Chg [] w1 w') (fun x _ => N - (intOf x).toNat)
      case atStart => exact ⟨0, rfl, Nat.zero_le _, Chg.refl _ _⟩
      case round =>
        obtain ⟨i, rfl, hiN, hci⟩ := hrel
        have HCI := Lib.hid hci
        clear hci
        by_cases hil : i < N
        · have g1 : (i : Int) < (N : Int) := by omega
          obtain ⟨ng, noff, rfl, hat⟩ := HR.out.get (by omega) (by simp)
          obtain ⟨xo, xc, x1, x2, x3, x4⟩ := hat i hil
          rw [show ((List.range N).map fun i => [i + 1, i]).getD i [] = [i + 1, i] by simp [List.getD, hil]] at x1 x2 x4
          obtain ⟨xg, xoff, rfl, hx⟩ := x4.at0 rfl (by simp)
          have y0 : wr.cell? ⟨xg, xoff, none⟩ = some (.int .i64 ((i + 1 : Nat) : Int)) := HCI.out.cell (hx 0 (by simp)) (by simp)
          have y1 : wr.cell? ⟨xg, xoff + 1, none⟩ = some (.int .i64 (i : Int)) := HCI.out.cell (hx 1 (by simp)) (by simp)
          have z1 : wr.cell? ⟨ng, noff + i, none⟩ = some (.slice (some ⟨xg, xoff, none⟩) 2 xc) := HCI.out.cell x1 (by simp)
          have e1 : (((i + 1 : Nat) : Int) != (i : Int) + 1) = false := by simp
          have e2 : ((i : Int) != (i : Int)) = false := by simp
          clear hat x1 x4 hx x2
          go_wp2
          go_roundw
          case rel => exact ⟨i + 1, by go_num, by omega, HCI.out⟩
          case measure => simp [intOf]; omega
        · have g1 : ¬ ((i : Int) < (N : Int)) := by omega
          go_wp2
          go_ret
          exact ⟨rfl, ((HK1.out.trans HCW.out (by simp)).trans HCI.out (by simp)).below (Nat.le_refl _) (by simp)⟩

end Go.Proofs.Ytpffgelllabfnaa
