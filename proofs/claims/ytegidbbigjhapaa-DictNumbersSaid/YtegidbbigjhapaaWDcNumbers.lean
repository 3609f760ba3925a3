/- The walk of the statement DictNumbers. -/
import Derived.Test.YtegidbbigjhapaaEh
namespace Go.Proofs.Ytegidbbigjhapaa
open Go.RowKit
set_option linter.unusedVariables false
set_option linter.unusedSimpArgs false

theorem one_part (t k : Nat) (ht : 1 ≤ t ∧ t ≤ 8) (hk : k < 2 ^ t) : partL t 1 [2, k] = (0, [k], []) := by
  have hg : gl 0 [2, k] = (1, 0) := by simp [gl]
  have hv : gv [2, k] = 2 := by unfold gv; rw [hg]; rfl
  have h8 : (t + 7) / 8 = 1 := by omega
  have hn : nm [k] = k := rfl
  unfold partL
  rw [hg, hv, h8]
  simp [hn]
  omega
theorem one_run (t k : Nat) (ht : 1 ≤ t ∧ t ≤ 8) (hk : k < 2 ^ t) : decA [2, k] 1 (t : Int) = (0, [k]) := by
  have hp := one_part t k ht hk
  have hd : decL t 1 [2, k] = (0, [k]) := by
    rw [decL_ok t 1 [2, k] (by decide) (by rw [hp]), hp]
    simp [decL_zero]
  unfold decA
  rw [if_neg (by omega), if_neg (by omega)]
  simp [hd]

theorem num_dec (n t k : Nat) (hn : n ≤ 256) (ht : 1 ≤ t ∧ t ≤ 8) (hw : widD n = t) (hk : k < 2 ^ t) : ddecW [2, k] 1 (List.replicate n ⟨0, e0⟩) = if k < n then ([⟨0, e0⟩], 0) else ([], 10) := by
  unfold ddecW
  have h1 : (List.replicate n (⟨0, e0⟩ : V)).length = n := by simp
  rw [h1, hw, one_run t k ht hk, if_neg (by omega), if_neg (by simp)]
  by_cases h : k < n
  · simp [h]
  · simp [h]

theorem ltT {a b : Nat} (h : a < b) : decide ((a : Int) < (b : Int)) = true := by simpa using h
theorem ltF {a b : Nat} (h : ¬ a < b) : decide ((a : Int) < (b : Int)) = false := by simpa using h
theorem leT {a b : Nat} (h : a ≤ b) : decide ((a : Int) ≤ (b : Int)) = true := by simpa using h
theorem leF {a b : Nat} (h : ¬ a ≤ b) : decide ((a : Int) ≤ (b : Int)) = false := by simpa using h
theorem u8w {k : Nat} (h : k < 256) : IntKind.u8.wrap (k : Int) = (k : Int) := by simp [IntKind.wrap, IntKind.bits, IntKind.signed]; omega

set_option maxRecDepth 100000 in
set_option maxHeartbeats 4000000 in
theorem walk_DictNumbers (a0 a1 : Int) (w : World) (w0 : (Lit.int .i64 a0).wf = true) (w1 : (Lit.int .i64 a1).wf = true) :
    Calls Try.prog 8 #[.int .i64 a0, .int .i64 a1] w fun e w' => e = .returned (.bool true) ∧ Below w.heap.size w w' := by
  obtain ⟨i0, hi, hz0, hz1, hz2⟩ := info_value
  have HQ := Lib.hid (fun wx => within13 a0 60 60 wx rfl (by decide) (by decide) w0)
  obtain ⟨K, hK⟩ : ∃ K, K = (a0 % ((60 : Nat) : Int)).toNat := ⟨_, rfl⟩
  have hK4 : K < 60 := by rw [hK]; exact within_lt a0 60 (by decide)
  rw [← hK] at HQ
  obtain ⟨n, hn⟩ : ∃ n, n = 3 + K := ⟨_, rfl⟩
  have hn0 : 3 ≤ n ∧ n ≤ 62 := by omega
  have hKn : (3 : Int) + (K : Int) = (n : Int) := by omega
  obtain ⟨N2, hN2⟩ : ∃ N2, N2 = 2 * n := ⟨_, rfl⟩
  have hN2b : 6 ≤ N2 ∧ N2 ≤ 124 := by omega
  have HQ2 := Lib.hid (fun wx => within13 a1 (N2 : Int) N2 wx rfl (by omega) (by omega) w1)
  obtain ⟨k, hk⟩ : ∃ k, k = (a1 % (N2 : Int)).toNat := ⟨_, rfl⟩
  have hkl : k < N2 := by rw [hk]; exact within_lt a1 N2 (by omega)
  rw [← hk] at HQ2
  have hw2 : IntKind.i64.wrap (2 * (n : Int)) = (N2 : Int) := by rw [IntWalk.i64_in _ (by omega)]; omega
  clear w0 w1 hK hn hN2 hk
  go_enter Try.func8, Try.ntmps8
  go_wp2_with fail
  refine (known13_any _).mono ?_
  rintro e wA ⟨rfl, hk⟩
  have HKA := Lib.hid hk
  clear hk
  go_wp2_with fail
  refine (HQ.out _).mono ?_
  rintro e wB ⟨rfl, rfl⟩
  go_wp2_with (first
    | (at_make; refine wpList_make_full _ rfl _ _ 22 rfl wA.heap.size 28 i0 (.agg #[.int .i64 0, .string ByteArray.empty]) 2 Try.underlying22 hi hz0 hz1 .i64 .i64 _ _ n rfl rfl rfl rfl ?c1 ?c2 (Nat.le_refl _) ?_)
    | fail)
  case c1 => rw [hz2]; omega
  case c2 => unfold maxLen; omega
  intro w2 hown hg
  rw [cells_values] at hown
  have HC2 := Lib.hid (HKA.out.grown hg (by simp))
  have HW := Lib.hid (show SeenV w2 (.slice (some ⟨wA.heap.size, 0, none⟩) n n) (List.replicate n ⟨0, e0⟩) from SeenK.own V.cs_len hown (by simp))
  clear hown hg
  go_wp2_with (first
    | (go_at_call 11; (with_reducible refine (HQ2.out _).mono ?_); rintro e w3 ⟨rfl, rfl⟩)
    | fail)
  go_loopw [7] (fun tp w' => ∃ t P : Nat, P = 2 ^ t ∧ t ≤ 6 ∧ tp = .int .i64 (P : Int) ∧ (t = 0 ∨ 2 ^ (t - 1) < n) ∧ w' = w2) (fun tp _ => n - (intOf tp).toNat)
  case atStart => exact ⟨0, 1, rfl, by omega, rfl, .inl rfl, rfl⟩
  case round =>
    obtain ⟨t, P, hP, ht, rfl, htn, rfl⟩ := hrel
    have hPb : 1 ≤ P ∧ P ≤ 64 := by
      rw [hP]
      exact ⟨Nat.two_pow_pos t, by have := Nat.pow_le_pow_right (show 0 < 2 by decide) ht; simpa using this⟩
    have HP := Lib.hid hP
    have HTN := Lib.hid htn
    clear hP htn
    by_cases hlt : P < n
    · have d1 := ltT hlt
      have hwp : IntKind.i64.wrap (2 * (P : Int)) = ((2 * P : Nat) : Int) := by
        rw [IntWalk.i64_in _ (by omega)]; omega
      have ht6 : t < 6 := by
        rcases Nat.lt_or_ge t 6 with h | h
        · exact h
        · exfalso
          have h6 : t = 6 := by omega
          have := HP.out
          rw [h6] at this
          simp at this
          omega
      go_wp2
      go_roundw
      case rel => exact ⟨t + 1, 2 * P, by rw [Nat.pow_succ, ← HP.out]; omega, ht6, by first | rfl | go_num, .inr (by rw [Nat.add_sub_cancel, ← HP.out]; exact hlt), by first | rfl | trivial⟩
      case measure => simp [intOf]; omega
    · have d1 := ltF hlt
      by_cases hkP : P ≤ k
      · have d2 := leT hkP
        go_wp2
        go_ret
        exact ⟨rfl, HC2.out.below (Nat.le_refl _) (by simp)⟩
      · have d2 := leF hkP
        have ht1 : 1 ≤ t := by
          rcases Nat.eq_zero_or_pos t with h | h
          · exfalso
            have := HP.out
            rw [h] at this
            simp at this
            omega
          · exact h
        have HWT := Lib.hid (show widD n = t from by
          unfold widD
          exact blen_of (n - 1) t (by omega) (by have := HP.out; omega) (by rcases HTN.out with h | h; exact .inl h; exact .inr (by omega)))
        have HD := Lib.hid (num_dec n t k (by omega) (by omega) HWT.out (by rw [← HP.out]; omega))
        go_wp2
        go_loopw [8] (fun x w' => ∃ j : Nat, j ≤ t ∧ x = .int .i64 (j : Int) ∧ w' = wr) (fun x _ => t - (intOf x).toNat)
        case atStart => exact ⟨0, Nat.zero_le _, rfl, rfl⟩
        case round =>
          obtain ⟨j, hj, rfl, rfl⟩ := hrel
          have hu : IntKind.u64.wrap (j : Int) = (j : Int) := by rw [un_wrap, un_nat _ (by omega)]
          obtain ⟨Q, hQ⟩ : ∃ Q : Nat, Q = 2 ^ j := ⟨_, rfl⟩
          have hQ64 : Q ≤ 64 := by
            rw [hQ]
            have := Nat.pow_le_pow_right (show 0 < 2 by decide) (show j ≤ 6 by omega)
            simpa using this
          have hq : Go.RowKit.wrap64 ((2 : Int) ^ j) = (Q : Int) := by
            have e : (2 : Int) ^ j = (Q : Int) := by rw [hQ]; exact (Int.natCast_pow 2 j).symm
            rw [e]
            exact IntWalk.wrap64_in _ (by omega)
          have HQJ := Lib.hid hQ
          clear hQ
          by_cases hjt : j < t
          · have hQn : Q < n := by
              rw [HQJ.out]
              rcases HTN.out with h | h
              · omega
              · exact Nat.lt_of_le_of_lt (Nat.pow_le_pow_right (by decide) (by omega)) h
            have d3 := ltT hQn
            go_wp2
            go_roundw
            case rel => exact ⟨j + 1, hjt, by first | rfl | go_num, by first | rfl | trivial⟩
            case measure => simp [intOf]; omega
          · obtain rfl : j = t := by omega
            have hQn : ¬ Q < n := by rw [HQJ.out, ← HP.out]; exact hlt
            have d3 := ltF hQn
            have hk256 : k < 256 := Nat.lt_of_lt_of_le hkl (Nat.le_trans hN2b.2 (by decide))
            have hu8 := u8w hk256
            have d8 : decide ((j : Int) ≤ 8) = true := leT (b := 8) (Nat.le_trans ht (by decide))
            have HDD := Lib.hid (fun (wx : World) (bv : Value) (hs : Seen wx bv (nv .u8 [2, k])) (hc : Chg [] wr wx) => ddecode13_any bv [2, k] 1 _ (List.replicate n ⟨0, e0⟩) wx hs (fun x hx => by rcases List.mem_cons.1 hx with rfl | hx; decide; rw [List.mem_singleton.1 hx]; exact hk256) (HW.out.keep hc))
            have hseen : Seen (wr.alloc (.cells #[.int .u8 2, .int .u8 (k : Int)] 5)) (.slice (some ⟨wr.heap.size, 0, none⟩) 2 2) (nv .u8 [2, k]) := (reads_of_own (own_lit wr wr.heap.size wr.heap.size rfl (Nat.le_refl _) 5 #[.int .u8 2, .int .u8 (k : Int)] (nv .u8 [2, k]) 2 1 rfl rfl (by decide))).seen
            have HSE := Lib.hid hseen
            by_cases hkn : k < n
            · have HD1 := Lib.hid (show ddecW [2, k] 1 (List.replicate n ⟨0, e0⟩) = ([⟨0, e0⟩], 0) by rw [HD.out, if_pos hkn])
              have d4 := ltT hkn
              have d5 := leF (show ¬ n ≤ k from Nat.not_le.2 hkn)
              clear hseen
              go_wp2_with fail
              refine (HDD.out _ _ HSE.out ((Chg.refl [] wr).alloc _)).mono ?_
              rintro e w5 ⟨xv, rfl, hc, ho⟩
              rw [HD1.out] at ho ⊢
              obtain ⟨xo, xc, rfl⟩ := own_shape ho
              have HC5 := Lib.hid ((HC2.out.alloc (.cells #[.int .u8 2, .int .u8 (k : Int)] 5)).trans hc (by simp))
              simp only [List.length_cons, List.length_nil]
              clear hc ho
              go_wp2
              go_ret
              exact ⟨rfl, HC5.out.below (Nat.le_refl _) (by simp)⟩
            · have HD1 := Lib.hid (show ddecW [2, k] 1 (List.replicate n ⟨0, e0⟩) = ([], 10) by rw [HD.out, if_neg hkn])
              have d4 := ltF hkn
              have d5 := leT (show n ≤ k from Nat.not_lt.1 hkn)
              clear hseen
              go_wp2_with fail
              refine (HDD.out _ _ HSE.out ((Chg.refl [] wr).alloc _)).mono ?_
              rintro e w5 ⟨xv, rfl, hc, ho⟩
              rw [HD1.out] at ho ⊢
              obtain ⟨xo, xc, rfl⟩ := own_shape ho
              have HC5 := Lib.hid ((HC2.out.alloc (.cells #[.int .u8 2, .int .u8 (k : Int)] 5)).trans hc (by simp))
              simp only [List.length_nil]
              clear hc ho
              go_wp2
              go_ret
              exact ⟨rfl, HC5.out.below (Nat.le_refl _) (by simp)⟩

end Go.Proofs.Ytegidbbigjhapaa
