/- The reference's order of two values. -/
import Derived.Test.YtgfjmbjpikcffaaSt
namespace Go.Proofs.Ytgfjmbjpikcffaa
open Go.RowKit
set_option linter.unusedVariables false
set_option linter.unusedSimpArgs false

theorem rorder8_any (x y : Int) (w : World) : Calls Try.prog 23 #[.int .i64 x, .int .i64 y] w fun e w' => e = .returned (.int .i64 (ordI x y)) ∧ w = w' := by
  have h3 := ordI_cases x y
  rcases h3 with ⟨E, h⟩ | ⟨E, h⟩ | ⟨E, h⟩
  · have d1 : decide (x < y) = true := by simpa using h
    rw [E]
    clear E
    go_enter Try.func23, Try.ntmps23
    go_wp2
    go_ret
    exact ⟨rfl, rfl⟩
  · have d1 : decide (x < y) = false := by simp; omega
    have d2 : decide (y < x) = false := by simp; omega
    rw [E]
    clear E h
    go_enter Try.func23, Try.ntmps23
    go_wp2
    go_ret
    exact ⟨rfl, rfl⟩
  · have d1 : decide (x < y) = false := by simp; omega
    have d2 : decide (y < x) = true := by simpa using h
    rw [E]
    clear E
    go_enter Try.func23, Try.ntmps23
    go_wp2
    go_ret
    exact ⟨rfl, rfl⟩

theorem u8_i64 (x : Nat) (h : x < 256) : IntKind.i64.wrap (x : Int) = (x : Int) := IntWalk.i64_in _ (by omega)

set_option maxRecDepth 100000 in
set_option maxHeartbeats 4000000 in
theorem rcompare_any (k : Nat) (a b : V) (w : World) (h1 : a.s.size ≤ 1000000) (h2 : b.s.size ≤ 1000000) :
    Calls Try.prog 17 #[.int .i64 (k : Int), vvV a, vvV b] w fun e w' => e = .returned (.int .i64 (cv k a b)) ∧ Chg [] w w' := by
  obtain ⟨an, s⟩ := a
  obtain ⟨bn, t⟩ := b
  simp only at h1 h2
  have HC := Lib.hid (((Chg.refl [] w).alloc (.cells #[.int .i64 an, .string s] 35)).alloc (.cells #[.int .i64 bn, .string t] 35))
  by_cases hk : (k : Int) = 4
  · have d1 : ((k : Int) != 4) = false := by simp [hk]
    have E := Lib.hid (show cv k ⟨an, s⟩ ⟨bn, t⟩ = cmpL (bl s) (bl t) by unfold cv cmpV; rw [if_pos hk])
    clear hk
    go_enter Try.func17, Try.ntmps17
    go_wp2
    go_loopw [7] (fun x w' => ∃ i : Nat, x = .int .i64 (i : Int) ∧ i ≤ s.size ∧ i ≤ t.size ∧ (bl s).take i = (bl t).take i ∧ Chg [] ((w.alloc (.cells #[.int .i64 an, .string s] 35)).alloc (.cells #[.int .i64 bn, .string t] 35)) w') (fun x _ => s.size - (intOf x).toNat)
    case atStart => exact ⟨0, rfl, Nat.zero_le _, Nat.zero_le _, rfl, Chg.refl _ _⟩
    case round =>
      obtain ⟨i, rfl, hi1, hi2, hT, hc⟩ := hrel
      have HT := Lib.hid hT
      have HC2 := Lib.hid hc
      have X0 := hc.heap (((Chg.refl [] _).alloc (.cells #[.int .i64 bn, .string t] 35)).heap (heap_alloc_new w (.cells #[.int .i64 an, .string s] 35)) (by simp)) (by simp)
      have X1 := hc.heap (new2 w (.cells #[.int .i64 an, .string s] 35) (.cells #[.int .i64 bn, .string t] 35)) (by simp)
      have a1 : wr.cell? ⟨w.heap.size, 1, none⟩ = some (.string s) := by rw [cell_of_row _ _ _ _ _ _ X0]; rfl
      have b1 : wr.cell? ⟨w.heap.size + 1, 1, none⟩ = some (.string t) := by rw [cell_of_row _ _ _ _ _ _ X1]; rfl
      have HS := Lib.hid (cmpL_skip i (bl s) (bl t) hT (by rw [bl_length]; exact hi1) (by rw [bl_length]; exact hi2))
      clear hT hc X0 X1
      by_cases hq : i = s.size ∨ i = t.size
      · have E2 := Lib.hid (show cmpL (bl s) (bl t) = ordI (s.size : Int) (t.size : Int) by
          have h2 : (bl s).drop i = [] ∨ (bl t).drop i = [] := by
            rcases hq with h1 | h1
            · left; exact List.drop_of_length_le (by rw [bl_length]; omega)
            · right; exact List.drop_of_length_le (by rw [bl_length]; omega)
          rw [HS.out, cmpL_end _ _ h2, List.length_drop, List.length_drop, bl_length, bl_length, ordI_len _ _ _ hi1 hi2])
        by_cases hq1 : i < s.size
        · have d2 : decide ((i : Int) < (s.size : Int)) = true := by simp; omega
          have d3 : decide ((i : Int) < (t.size : Int)) = false := by simp; omega
          have i3 : t.size ≤ i := by omega
          clear hq
          go_wp2_with (first
            | (go_at_call 23; (with_reducible refine (rorder8_any _ _ _).mono ?_); rintro e w1 ⟨rfl, rfl⟩)
            | fail)
          go_ret
          exact ⟨ret_int (E2.out.symm.trans E.out.symm), HC.out.trans HC2.out (by simp)⟩
        · have d2 : decide ((i : Int) < (s.size : Int)) = false := by simp; omega
          clear hq
          go_wp2_with (first
            | (go_at_call 23; (with_reducible refine (rorder8_any _ _ _).mono ?_); rintro e w1 ⟨rfl, rfl⟩)
            | fail)
          go_ret
          exact ⟨ret_int (E2.out.symm.trans E.out.symm), HC.out.trans HC2.out (by simp)⟩
      · have i1 : (i : Int) < (s.size : Int) := by omega
        have i2 : (i : Int) < (t.size : Int) := by omega
        have d2 : decide ((i : Int) < (s.size : Int)) = true := by simpa using i1
        have d3 : decide ((i : Int) < (t.size : Int)) = true := by simpa using i2
        have j1 : i < s.size := by omega
        have j2 : i < t.size := by omega
        have ht : (i : Int).toNat = i := by omega
        have HA := Lib.hid (bl_get s i j1)
        have HB := Lib.hid (bl_get t i j2)
        have HD := Lib.hid (And.intro (take_one HA.out) (take_one HB.out))
        have wa : IntKind.i64.wrap ((s[i]'j1).toNat : Int) = ((s[i]'j1).toNat : Int) := u8_i64 _ (s[i]'j1).toNat_lt
        have wb : IntKind.i64.wrap ((t[i]'j2).toNat : Int) = ((t[i]'j2).toNat : Int) := u8_i64 _ (t[i]'j2).toNat_lt
        by_cases hxy : (s[i]'j1).toNat = (t[i]'j2).toNat
        · have e1 : (((s[i]'j1).toNat : Int) != ((t[i]'j2).toNat : Int)) = false := by simp [hxy]
          have HN := Lib.hid (show (bl s).take (i + 1) = (bl t).take (i + 1) by rw [HD.out.1.1, HD.out.2.1, HT.out, hxy])
          clear hxy hq
          go_upto_region 6 with fail
          go_quiet (fail)
          go_wp2
          go_roundw
          case rel => exact ⟨i + 1, by go_num, by omega, by omega, HN.out, HC2.out.drewN _⟩
          case measure => simp [intOf]; omega
        · have e1 : (((s[i]'j1).toNat : Int) != ((t[i]'j2).toNat : Int)) = true := by simp; omega
          have E2 := Lib.hid (show cmpL (bl s) (bl t) = ordI ((s[i]'j1).toNat : Int) ((t[i]'j2).toNat : Int) by
            rw [HS.out, HD.out.1.2, HD.out.2.2, cmpL, if_neg hxy])
          clear hxy hq
          go_upto_region 6 with fail
          go_quiet (fail)
          go_wp2_with fail
          go_quiet (first
            | (refine (rorder8_any _ _ _).mono fun _ _ h => ⟨h.1, _, h.2.symm⟩))
          go_wp2
          go_ret
          exact ⟨ret_int (E2.out.symm.trans E.out.symm), ((HC.out.trans HC2.out (by simp)).drewN _).drewN _⟩
  · have d1 : ((k : Int) != 4) = true := by simpa using hk
    have E := Lib.hid (show cv k ⟨an, s⟩ ⟨bn, t⟩ = ordI an bn by unfold cv cmpV; rw [if_neg hk])
    clear hk
    go_enter Try.func17, Try.ntmps17
    go_wp2_with (first
      | (go_at_call 23; (with_reducible refine (rorder8_any _ _ _).mono ?_); rintro e w1 ⟨rfl, rfl⟩)
      | fail)
    go_ret
    exact ⟨ret_int E.out.symm, HC.out⟩

end Go.Proofs.Ytgfjmbjpikcffaa
