/- The walk of the statement CursorTakes: bytes are taken in order, and are nobody else's. -/
import Derived.Test.YthfdfmdeojaabaaWBack
import Derived.Deep.QuietTactic
import Derived.BigQuiet
namespace Go.Proofs.Ythfdfmdeojaabaa
open Go.RowKit
set_option linter.unusedVariables false

theorem Rd.keepDrewN {w : World} {r : Nat} {zs : List Int} {e : Int} {M : Nat} (h : Rd w r zs e M) (n : Nat) : Rd (w.drewN n) r zs e M := h.keep0 ((Chg.refl _ _).drewN n)

theorem left_quiet (r : Nat) (zs : List Int) (e : Int) (M : Nat) (hz : zs.length ≤ 140737488355328) (w : World) (h : Rd w r zs e M) :
    Calls Try.prog 19 #[.pointer (some ⟨r, 0, none⟩)] w fun x w' => x = .returned (.int .i64 zs.length) ∧ w' = w := (left_any r zs e w hz h).mono fun x w' h => ⟨h.1, h.2.symm⟩

set_option maxRecDepth 100000 in
set_option maxHeartbeats 2000000 in
theorem walk_CursorTakes (a0 : Option Addr) (len0 cap0 : Nat) (z0 : List Int) (a1 : Option Addr) (len1 cap1 : Nat) (z1 : List Int) (w : World) (w0 : IsRow .u8 w a0 len0 cap0 z0) (w1 : IsRow .i64 w a1 len1 cap1 z1) :
    Calls Try.prog 5 #[.slice a0 len0 cap0, .slice a1 len1 cap1] w fun e w' => e = .returned (.bool true) ∧ Below w.heap.size w w' := by
  obtain ⟨zs, hS, rfl, hwf, hzt⟩ := w0.bytes; clear hzt
  have W1 := Lib.hid w1
  have hl1 := w1.len
  unfold maxLen at hl1
  have hcap : zs.length ≤ cap0 := by
    have h := hS
    rcases h with ⟨he, h0⟩ | ⟨a, cap, he, h1, _⟩
    · injection he with e1 e2 e3; omega
    · injection he with e1 e2 e3
      rw [bys_length] at h1
      omega
  have HS := Lib.hid hS; clear hS
  clear w0 w1
  by_cases hlen : 100 < zs.length
  · go_enter Try.func5, Try.ntmps5
    go_wp2_with fail
    refine (known_any _).mono ?_
    rintro x w1 ⟨rfl, hk⟩
    have HK := Lib.hid hk; clear hk
    go_wp2
    go_ret
    exact ⟨rfl, HK.out.below (Nat.le_refl _) (by simp)⟩
  have hlz : zs.length ≤ 140737488355328 := by omega
  go_enter Try.func5, Try.ntmps5
  go_wp2_with fail
  refine (known_any _).mono ?_
  rintro x w1 ⟨rfl, hk⟩
  have HK := Lib.hid hk; clear hk
  go_wp2_with fail
  refine (new_any _ zs _ hlz (HS.out.keep HK.out)).mono ?_
  rintro x w2 ⟨r, rfl, g1, g2, g3⟩
  have C2 := Lib.hid (HK.out.trans g1 (by simp)); clear g1
  have hr : w.heap.size ≤ r := Nat.le_trans HK.out.size g2
  have R2 := Lib.hid g3; clear g3 g2
  go_wp2_with fail
  go_loopw [6, 7] (fun at_ i wr => ∃ (a k : Nat), a ≤ zs.length ∧ k ≤ 20 ∧ at_ = .int .i64 a ∧ i = .int .i64 k ∧ Chg [] w wr ∧ w2.heap.size ≤ wr.heap.size ∧ Rd wr r (zs.drop a) 0 w2.heap.size) (fun _ i _ => 20 - (intOf i).toNat)
  case atStart => exact ⟨0, 0, by omega, by omega, rfl, rfl, C2.out, Nat.le_refl _, R2.out⟩
  case round =>
    obtain ⟨a, k, ha, hk, rfl, rfl, hc, hsz, hs⟩ := hrel
    have HC := Lib.hid hc; have HR := Lib.hid hs
    clear hc hs
    have hdl : (zs.drop a).length = zs.length - a := by simp
    have hdz : (zs.drop a).length ≤ 140737488355328 := by omega
    have HDL := Lib.hid hdl; clear hdl
    by_cases hgo : k < len1 ∧ k < 20
    · obtain ⟨hk1, hk20⟩ := hgo
      obtain ⟨g1, o1, rfl, hd1⟩ := W1.out.at (i := k) (by omega)
      have d1 := HC.out.cell (hd1 k (by omega)) (by simp)
      clear hd1
      have b1 := Lib.hid (wf_i64 (wf_getD W1.out.wf (i := k) (by omega)))
      have h8 : (1 : Int) ≤ (zs.length : Int) - a + 1 := by omega
      have h8' : (zs.length : Int) - a + 1 ≤ 4611686018427387904 := by omega
      have e1 : 0 ≤ z1.getD k 0 % ((zs.length : Int) - a + 1) := Int.emod_nonneg _ (by omega)
      have e2 : z1.getD k 0 % ((zs.length : Int) - a + 1) < (zs.length : Int) - a + 1 := Int.emod_lt_of_pos _ (by omega)
      obtain ⟨n, hn⟩ : ∃ n : Nat, z1.getD k 0 % ((zs.length : Int) - a + 1) = (n : Int) := ⟨(z1.getD k 0 % ((zs.length : Int) - a + 1)).toNat, by omega⟩
      have hna : a + n ≤ zs.length := by omega
      clear e1 e2
      have HN := Lib.hid hn; clear hn
      go_wp2_with fail
      refine (within_any _ _ _ h8 h8' b1.out.1 b1.out.2).mono ?_
      rintro x w3 ⟨rfl, rfl⟩
      rw [HN.out]
      clear h8 h8'
      go_wp2_with fail
      refine (take_any r n n 0 _ _ hdz HR.out (by omega) (by rw [HDL.out]; omega)).mono ?_
      rintro x w4 ⟨v, rfl, g1, g2, g3⟩
      have C4 := Lib.hid (HC.out.trans (T := [r]) g1 (by simp; exact hr))
      have hsz4 : w2.heap.size ≤ w4.heap.size := Nat.le_trans hsz g1.size
      rw [List.drop_drop] at g2
      have R4 := Lib.hid g2; clear g2
      have SV := Lib.hid (reads_of_own g3).seen
      have OV := Lib.hid g3; clear g3 g1
      obtain ⟨sv, s1, s2⟩ := run_slice_seen (HS.out.keep C4.out) hcap a (a + n) (by omega) hna
      have e3 : ((bys zs).take (a + n)).drop a = bys ((zs.drop a).take n) := by simp only [bys, List.map_take, List.map_drop, List.drop_take, Nat.add_sub_cancel_left]
      rw [e3] at s1
      clear e3
      rw [show ((a + n : Nat) : Int) = (a : Int) + (n : Int) from by omega] at s2
      have cv1 : ∀ m, (convert 22 9 v).run Try.prog (w4.drewN m) = .ok (.string (strOfNums ((zs.drop a).take n))) (w4.drewN m) := fun m => run_convert_seen (SV.out.keep ((Chg.refl [] w4).drewN m)) 22 9 5 Try.underlying22 Try.underlying5 Try.underlying9
      have cv2 : ∀ m, (convert 22 9 sv).run Try.prog (w4.drewN m) = .ok (.string (strOfNums ((zs.drop a).take n))) (w4.drewN m) := fun m => run_convert_seen (s1.keep ((Chg.refl [] w4).drewN m)) 22 9 5 Try.underlying22 Try.underlying5 Try.underlying9
      clear s1
      have hdl4 : (zs.drop (a + n)).length ≤ 140737488355328 := by simp; omega
      have hdl5 : ((zs.drop (a + n)).length : Int) = (zs.length : Int) - a - n := by simp; omega
      have HD5 := Lib.hid hdl5; clear hdl5
      go_wp2_with fail
      have hw1 : IntKind.i64.wrap ((a : Int) + n) = (a : Int) + n := IntWalk.i64_in _ (by omega)
      have hw2 : IntKind.i64.wrap ((zs.length : Int) - a) = (zs.length : Int) - a := IntWalk.i64_in _ (by omega)
      have hw3 : IntKind.i64.wrap ((zs.length : Int) - a - n) = (zs.length : Int) - a - n := IntWalk.i64_in _ (by omega)
      go_quiet ((go_at_call 19; exact Calls.quiet_of_same (left_quiet r _ 0 _ hdl4 _ (R4.out.keepDrewN _))))
      clear hw1 hw2 hw3
      rw [HD5.out]
      by_cases hn0 : n = 0
      · have HO := Lib.hid hn0
        subst hn0
        clear cv1 cv2 s2
        go_wp2
        go_roundw
        case rel => exact ⟨a, k + 1, ha, by omega, rfl, by go_num, C4.out.drewN _, hsz4, R4.out.keepDrewN _⟩
        case measure => simp [intOf]; omega
      · have hn1 : 0 < n := by omega
        obtain ⟨y, ys, hy⟩ : ∃ y ys, (zs.drop a).take n = y :: ys := by
          rcases hzz : (zs.drop a).take n with _ | ⟨y, ys⟩
          · have := congrArg List.length hzz
            rw [List.length_take, HDL.out, List.length_nil] at this
            omega
          · exact ⟨y, ys, rfl⟩
        have ov := OV.out
        have ov4 := ov.2
        clear cv1 cv2 s2
        rcases ov4 with ⟨rfl, h0⟩ | ⟨g, cap', cur, rfl, hg, hcur, _⟩
        · omega
        have c0 : w4.cell? ⟨g, 0, none⟩ = some (.int .u8 y) := by rw [ov.cellAt 0 (by rw [Nat.mul_one]; exact hn1), hy]; rfl
        have f0 := ov.frozenAt 0
        have HG := Lib.hid hg
        clear ov hcur hy
        go_wp2
        go_roundw
        case rel =>
          have hrl := R2.out.lt
          have hwl := HC.out.size
          exact ⟨a + n, k + 1, hna, by omega, by go_num, by go_num, (C4.out.drewN _).setCell (.inr (by show _ ≤ g; omega)) _, by simpa using hsz4, (R4.out.keepDrewN _).keepHigh (k := g) ((Chg.refl _ _).setCell (by simp) _) (by omega) (by omega)⟩
        case measure => simp [intOf]; omega
    by_cases hk1 : k < len1
    · have hk20 : ¬ k < 20 := by omega
      clear hgo
      by_cases hal : a = zs.length
      · have hde : zs.drop a = [] := by rw [hal]; simp
        have HDE := Lib.hid hde; clear hde
        subst hal
        go_wp2_with fail
        refine (end_any r _ 0 _ hdz HR.out).mono ?_
        rw [if_pos HDE.out]
        rintro x w7 ⟨rfl, rfl⟩
        go_wp2
        go_ret
        exact ⟨rfl, HC.out.below (Nat.le_refl _) (by simp)⟩
      · have hde : zs.drop a ≠ [] := by
          intro h
          have := congrArg List.length h
          rw [HDL.out, List.length_nil] at this
          omega
        have HDE := Lib.hid hde; clear hde
        have hab : ((a : Int) == (zs.length : Int)) = false := by rw [beq_eq_false_iff_ne]; omega
        clear hal
        go_wp2_with fail
        refine (end_any r _ 0 _ hdz HR.out).mono ?_
        rw [if_neg HDE.out]
        rintro x w7 ⟨rfl, rfl⟩
        go_wp2
        go_ret
        exact ⟨rfl, HC.out.below (Nat.le_refl _) (by simp)⟩
    · skip
      clear hgo
      by_cases hal : a = zs.length
      · have hde : zs.drop a = [] := by rw [hal]; simp
        have HDE := Lib.hid hde; clear hde
        subst hal
        go_wp2_with fail
        refine (end_any r _ 0 _ hdz HR.out).mono ?_
        rw [if_pos HDE.out]
        rintro x w7 ⟨rfl, rfl⟩
        go_wp2
        go_ret
        exact ⟨rfl, HC.out.below (Nat.le_refl _) (by simp)⟩
      · have hde : zs.drop a ≠ [] := by
          intro h
          have := congrArg List.length h
          rw [HDL.out, List.length_nil] at this
          omega
        have HDE := Lib.hid hde; clear hde
        have hab : ((a : Int) == (zs.length : Int)) = false := by rw [beq_eq_false_iff_ne]; omega
        clear hal
        go_wp2_with fail
        refine (end_any r _ 0 _ hdz HR.out).mono ?_
        rw [if_neg HDE.out]
        rintro x w7 ⟨rfl, rfl⟩
        go_wp2
        go_ret
        exact ⟨rfl, HC.out.below (Nat.le_refl _) (by simp)⟩

end Go.Proofs.Ythfdfmdeojaabaa
