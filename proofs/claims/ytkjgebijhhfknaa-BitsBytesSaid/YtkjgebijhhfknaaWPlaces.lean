/- The walk of the statement BitsPlaces. -/
import Derived.Test.YtkjgebijhhfknaaWBack
namespace Go.Proofs.Ytkjgebijhhfknaa
open Go.RowKit
set_option linter.unusedVariables false

theorem bit_i64 (s k : Nat) (hs : s ≤ 255) : bits BinOp.and IntKind.i64 ((s : Int) / 2 ^ k) 1 = if s.testBit k then 1 else 0 := by
  have e4 : (s : Int) / 2 ^ k = ((s / 2 ^ k : Nat) : Int) := by simp
  have hl : s / 2 ^ k ≤ s := Nat.div_le_self _ _
  have h := bits_mask .i64 8 (by decide) (fun n h0 h1 => IntWalk.i64_in _ (by omega)) 1 (by omega) ((s / 2 ^ k : Nat) : Int) (Int.natCast_nonneg _) (by omega)
  rw [e4]
  rw [show ((2 : Int) ^ 1 - 1) = 1 from rfl] at h
  rw [h, Nat.testBit_eq_decide_div_mod_eq]
  by_cases c : s / 2 ^ k % 2 = 1 <;> simp [c] <;> omega

theorem strm_packed (w : Nat) (S : List Nat) : strm 8 (packed w S) = strm w S := by
  have h := strm_lt w S
  unfold packed
  rw [strm_pk, Nat.mod_eq_of_lt h, Nat.mod_eq_of_lt]
  exact Nat.lt_of_lt_of_le h (Nat.pow_le_pow_right (by decide) (by omega))

/-- The bits of what was packed. -/
theorem packed_bit (w : Nat) (S : List Nat) (a : Nat) : ((packed w S).getD (a / 8) 0).testBit (a % 8) = (strm w S).testBit a := by
  have h := tb_strm 8 (packed w S) (a / 8) (a % 8) (by omega)
  rw [show 8 * (a / 8) + a % 8 = a by omega, strm_packed] at h
  exact h.symm

set_option maxRecDepth 100000 in
set_option maxHeartbeats 1000000 in
theorem walk_BitsPlaces (a0 : Option Addr) (len0 cap0 : Nat) (z0 : List Int) (a1 : Int) (w : World) (w0 : IsRow .u64 w a0 len0 cap0 z0) (w1 : (Lit.int .i64 a1).wf = true) :
    Calls Try.prog 8 #[.slice a0 len0 cap0, .int .i64 a1] w fun e w' => e = .returned (.bool true) ∧ Below w.heap.size w w' := by
  obtain ⟨S, hS, rfl, hSl⟩ := w0.u64s
  have HS := Lib.hid hS; have HSL := Lib.hid hSl; have W1 := Lib.hid w1
  clear w0 w1 hS hSl
  by_cases hlen : 40 < S.length
  · go_enter Try.func8, Try.ntmps8
    go_wp2_with fail
    refine (known_any _).mono ?_
    rintro x w1 ⟨rfl, hk⟩
    have HC := Lib.hid hk; clear hk
    go_wp2
    go_ret
    exact ⟨rfl, HC.out.below (Nat.le_refl _) (by simp)⟩
  obtain ⟨width, hk⟩ : ∃ n, n = (a1 % (65 : Nat)).toNat := ⟨_, rfl⟩
  have hw2 : width < 65 := by rw [hk]; exact within_lt a1 65 (by decide)
  have HK := Lib.hid hk; clear hk
  obtain ⟨N, hN⟩ : ∃ N, N = width * S.length := ⟨_, rfl⟩
  have hN2 : N ≤ 64 * 40 := by rw [hN]; exact Nat.mul_le_mul (by omega) (by omega)
  have HN := Lib.hid hN; clear hN
  go_enter Try.func8, Try.ntmps8
  go_wp2_with fail
  refine (known_any _).mono ?_
  rintro x w1 ⟨rfl, hk⟩
  have HC1 := Lib.hid hk; clear hk
  go_wp2_with fail
  refine (within_nat a1 65 _ (by decide) (by decide) W1.out).mono ?_
  rintro x w2 ⟨rfl, rfl⟩
  rw [← HK.out]
  go_wp2_with fail
  refine (pack_yes _ S width _ (by omega) (by omega) (HS.out.keep HC1.out) HSL.out).mono ?_
  rintro x w2 ⟨g, rfl, h1, h2⟩
  have HC2 := Lib.hid (HC1.out.trans h1 (by simp))
  have HP := Lib.hid h2
  clear h1 h2
  have hlen2 := packed_length width S
  rw [← HN.out] at hlen2
  generalize hc : (packed width S).length = c at HP hlen2 ⊢
  have HCC := Lib.hid hc; clear hc
  have HL2 := Lib.hid hlen2
  have hc8 : c ≤ 321 := by omega
  clear hlen2
  go_wp2
  go_loopw [7, 8, 9] (fun at_ i k wr => ∃ j : Nat, j ≤ S.length ∧ at_ = .int .i64 ((width * j : Nat) : Int) ∧ i = .int .i64 (j : Int) ∧ Chg [] w wr ∧ wr.ownsRow w1.heap.size 5 1 (.slice (some ⟨g, 0, none⟩) c c) c (nv .u8 (packed width S))) (fun _ i _ _ => S.length - (intOf i).toNat)
  case atStart => exact ⟨0, Nat.zero_le _, rfl, rfl, HC2.out, HP.out⟩
  case round =>
    obtain ⟨j, hj, rfl, rfl, hcj, hoj⟩ := hrel
    have HCJ := Lib.hid hcj; have HOJ := Lib.hid hoj; clear hcj hoj
    obtain ⟨A0, hA0⟩ : ∃ A0, A0 = width * j := ⟨_, rfl⟩
    rw [← hA0]
    have HA := Lib.hid hA0; clear hA0
    by_cases hlt : j < S.length
    · have hlt2 : decide (j < S.length) = true := by simpa using hlt
      have hA1 : A0 + width ≤ N := by
        have h := HN.out
        have : width * (j + 1) ≤ width * S.length := Nat.mul_le_mul_left _ hlt
        rw [Nat.mul_add, Nat.mul_one] at this
        have := HA.out
        omega
      go_wp2
      go_loopw [7, 9] (fun at_ k wx => ∃ k' : Nat, k' ≤ width ∧ at_ = .int .i64 ((A0 + k' : Nat) : Int) ∧ k = .int .i64 (k' : Int) ∧ Chg [] w wx ∧ wx.ownsRow w1.heap.size 5 1 (.slice (some ⟨g, 0, none⟩) c c) c (nv .u8 (packed width S))) (fun _ k _ => width - (intOf k).toNat)
      case atStart => exact ⟨0, Nat.zero_le _, rfl, rfl, HCJ.out, HOJ.out⟩
      case round =>
        obtain ⟨k, hk, rfl, rfl, hck, hok⟩ := hrel
        have HCK := Lib.hid hck; have HOK := Lib.hid hok; clear hck hok
        obtain ⟨a, ha⟩ : ∃ a, a = A0 + k := ⟨_, rfl⟩
        rw [← ha]
        have hnext : Hid (A0 + (k + 1) = a + 1) := Lib.hid (by omega)
        have HAK := Lib.hid ha; clear ha
        by_cases hkw : k < width
        · have hkw2 : decide (k < width) = true := by simpa using hkw
          have haN : a < N := by have := HAK.out; omega
          have hac : a / 8 < c := by have := HL2.out; omega
          have hy := own_cell HOK.out HCC.out (a / 8) hac
          have hs8 : (packed width S).getD (a / 8) 0 ≤ 255 := by
            have hlt3 : a / 8 < (packed width S).length := by rw [HCC.out]; exact hac
            have h := packed_bytes width S ((packed width S).getD (a / 8) 0) (by simp only [List.getD, List.getElem?_eq_getElem hlt3]; exact List.getElem_mem hlt3)
            omega
          obtain ⟨s, hs⟩ : ∃ s, s = (packed width S).getD (a / 8) 0 := ⟨_, rfl⟩
          rw [← hs] at hy hs8
          obtain ⟨x, rfl, hx0⟩ := (HS.out.keep HCK.out).at rfl (by omega)
          have hx := hx0 j hlt
          clear hx0
          have ht64 : S.getD j 0 ≤ 18446744073709551615 := by
            have h := HSL.out (S.getD j 0) (by simp only [List.getD, List.getElem?_eq_getElem hlt]; exact List.getElem_mem hlt)
            omega
          obtain ⟨t, ht⟩ : ∃ t, t = S.getD j 0 := ⟨_, rfl⟩
          rw [← ht] at hx ht64
          have hbit : s.testBit (a % 8) = t.testBit k := by
            rw [hs, packed_bit, HAK.out, HA.out, ht]
            exact tb_strm width S j k hkw
          clear hs ht
          obtain ⟨β, hβ0, hβ1, e1, e2⟩ : ∃ β : Int, 0 ≤ β ∧ β ≤ 1 ∧ bits BinOp.and IntKind.i64 ((s : Int) / 2 ^ (a % 8)) 1 = β ∧ bits BinOp.and IntKind.u64 ((t : Int) / 2 ^ k) 1 = β := by
            refine ⟨if s.testBit (a % 8) then 1 else 0, ?_, ?_, bit_i64 s _ hs8, by rw [hbit]; exact bit64 t k ht64⟩
            · split <;> omega
            · split <;> omega
          clear hbit
          have hge : decide ((c : Int) ≤ (a : Int) / 8) = false := by simp; omega
          have q8 : (s : Int) / 2 ^ (a % 8) = ((s / 2 ^ (a % 8) : Nat) : Int) := by simp
          have q9 : s / 2 ^ (a % 8) ≤ 255 := Nat.le_trans (Nat.div_le_self _ _) hs8
          have m1 : IntKind.i64.wrap ((s : Int) / 2 ^ (a % 8)) = (s : Int) / 2 ^ (a % 8) := by
            rw [q8]
            clear q8
            generalize s / 2 ^ (a % 8) = z at q9 ⊢
            exact IntWalk.i64_in _ (by omega)
          have m2 : IntKind.i64.wrap β = β := IntWalk.i64_in _ (by omega)
          have m3 : IntKind.i64.wrap ((a : Int) / 8) = (a : Int) / 8 := IntWalk.i64_in _ (by omega)
          have m4 : (a : Int).tdiv 8 = (a : Int) / 8 := by rfl
          have m5 : (a : Int).tmod 8 = (a : Int) % 8 := by rfl
          clear q8 q9
          go_wp2
          go_quiet (fail)
          go_wp2
          go_roundw
          case rel => exact ⟨k + 1, hkw, by rw [hnext.out]; go_num, by go_num, HCK.out.drewN _, HOK.out⟩
          case measure => simp [intOf]; omega
        · have hkw2 : decide (k < width) = false := by simpa using hkw
          have hkk := Lib.hid (show k = width by omega)
          go_wp2
          go_roundw
          case rel => exact ⟨j + 1, hlt, by rw [Nat.mul_add, Nat.mul_one, ← HA.out, ← hkk.out, ← HAK.out], by go_num, HCK.out, HOK.out⟩
          case measure => simp [intOf]; omega
    · have hlt2 : decide (j < S.length) = false := by simpa using hlt
      have hjl : A0 = N := by rw [HA.out, HN.out, show j = S.length by omega]
      subst hjl
      go_wp2
      go_loop [7] (fun at_ => ∃ m : Nat, A0 ≤ m ∧ m ≤ 8 * c ∧ at_ = .int .i64 (m : Int)) (fun at_ => 8 * c - (intOf at_).toNat)
      case atStart => exact ⟨A0, by omega, by have := HL2.out; omega, rfl⟩
      case round =>
        obtain ⟨a, hm, hm2, rfl⟩ := hrel
        by_cases hlt3 : a < 8 * c
        · have hac : a / 8 < c := by omega
          have hy := own_cell HOJ.out HCC.out (a / 8) hac
          have hs8 : (packed width S).getD (a / 8) 0 ≤ 255 := by
            have hlt3 : a / 8 < (packed width S).length := by rw [HCC.out]; exact hac
            have h := packed_bytes width S ((packed width S).getD (a / 8) 0) (by simp only [List.getD, List.getElem?_eq_getElem hlt3]; exact List.getElem_mem hlt3)
            omega
          obtain ⟨s, hs⟩ : ∃ s, s = (packed width S).getD (a / 8) 0 := ⟨_, rfl⟩
          rw [← hs] at hy hs8
          have hbit : s.testBit (a % 8) = false := by
            rw [hs, packed_bit]
            exact Nat.testBit_lt_two_pow (Nat.lt_of_lt_of_le (strm_lt width S) (Nat.pow_le_pow_right (by decide) (by rw [← HN.out]; exact hm)))
          have e1 := bit8 s (a % 8) hs8
          rw [hbit] at e1
          have hbb : (bits BinOp.and IntKind.u8 ((s : Int) / 2 ^ (a % 8)) 1 != 0) = false := by rw [e1]; rfl
          clear e1 hbit hs
          go_wp2
          go_round
          case rel => exact ⟨a + 1, by omega, by omega, by go_num⟩
          case measure => simp [intOf]; omega
        · go_wp2
          go_ret
          exact ⟨rfl, HCJ.out.below (Nat.le_refl _) (by simp)⟩

end Go.Proofs.Ytkjgebijhhfknaa
