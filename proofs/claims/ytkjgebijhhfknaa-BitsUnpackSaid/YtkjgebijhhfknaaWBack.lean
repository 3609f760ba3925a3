/- The walk of the statement BitsBack. -/
import Derived.Test.YtkjgebijhhfknaaLw
namespace Go.Proofs.Ytkjgebijhhfknaa
open Go.RowKit
set_option linter.unusedVariables false

/-- What was packed is no fault. -/
theorem fault_packed (w : Nat) (S : List Nat) : faultOf (packed w S) (w * S.length) = 0 := by
  unfold faultOf
  rw [packed_length, if_neg (by omega), if_neg (by omega), if_pos]
  have h := strm_lt w S
  unfold packed
  rw [strm_pk]
  refine Nat.div_eq_of_lt (Nat.lt_of_le_of_lt (Nat.mod_le _ _) ?_)
  exact Nat.mod_lt _ (Nat.two_pow_pos _)

theorem unpacked_packed (w : Nat) (S : List Nat) : unpacked (packed w S) S.length w = S.map (· % 2 ^ w) := by
  rw [← pk_back w S]
  unfold unpacked
  have h := strm_lt w S
  have e : strm 8 (packed w S) = strm w S := by
    unfold packed
    rw [strm_pk, Nat.mod_eq_of_lt h, Nat.mod_eq_of_lt]
    exact Nat.lt_of_lt_of_le h (Nat.pow_le_pow_right (by decide) (by omega))
  rw [e]

theorem packed_bytes (w : Nat) (S : List Nat) : ∀ x ∈ packed w S, x < 2 ^ 8 := by
  intro x hx
  unfold packed pk at hx
  obtain ⟨j, _, rfl⟩ := List.mem_map.1 hx
  exact wd_lt _ _ _ _

theorem mask_eq (s w : Nat) (hs : s ≤ 18446744073709551615) (hw : w < 64) :
    bits BinOp.and IntKind.u64 (s : Int) (IntKind.u64.wrap (IntKind.u64.wrap (2 ^ w) - 1)) = ((s % 2 ^ w : Nat) : Int) := by
  have hp : 0 < 2 ^ w := Nat.two_pow_pos w
  have hp2 : 2 ^ w ≤ 2 ^ 63 := Nat.pow_le_pow_right (by decide) (by omega)
  have e1 : ((2 : Int) ^ w) = ((2 ^ w : Nat) : Int) := by simp
  have e2 : IntKind.u64.wrap (2 ^ w) = (2 : Int) ^ w := by rw [e1]; exact wraps64 _ (by omega) (by omega)
  have e3 : IntKind.u64.wrap ((2 : Int) ^ w - 1) = (2 : Int) ^ w - 1 := by rw [e1]; exact wraps64 _ (by omega) (by omega)
  rw [e2, e3, bits_mask .u64 64 (by decide) wraps64 w (by omega) _ (Int.natCast_nonneg _) (by omega)]
  simp

set_option maxRecDepth 100000 in
set_option maxHeartbeats 1000000 in
theorem walk_BitsBack (a0 : Option Addr) (len0 cap0 : Nat) (z0 : List Int) (a1 : Int) (w : World) (w0 : IsRow .u64 w a0 len0 cap0 z0) (w1 : (Lit.int .i64 a1).wf = true) :
    Calls Try.prog 5 #[.slice a0 len0 cap0, .int .i64 a1] w fun e w' => e = .returned (.bool true) ∧ Below w.heap.size w w' := by
  obtain ⟨S, hS, rfl, hSl⟩ := w0.u64s
  have HS := Lib.hid hS; have HSL := Lib.hid hSl; have W1 := Lib.hid w1
  clear w0 w1 hS hSl
  by_cases hlen : 100 < S.length
  · go_enter Try.func5, Try.ntmps5
    go_wp2_with fail
    refine (known_any _).mono ?_
    rintro x w1 ⟨rfl, hk⟩
    have HC := Lib.hid hk; clear hk
    go_wp2
    go_ret
    exact ⟨rfl, HC.out.below (Nat.le_refl _) (by simp)⟩
  obtain ⟨k, hk⟩ : ∃ n, n = (a1 % (65 : Nat)).toNat := ⟨_, rfl⟩
  have hk2 : k < 65 := by rw [hk]; exact within_lt a1 65 (by decide)
  have HK := Lib.hid hk; clear hk
  go_enter Try.func5, Try.ntmps5
  go_wp2_with fail
  refine (known_any _).mono ?_
  rintro x w1 ⟨rfl, hk⟩
  have HC1 := Lib.hid hk; clear hk
  go_wp2_with fail
  refine (within_nat a1 65 _ (by decide) (by decide) W1.out).mono ?_
  rintro x w2 ⟨rfl, rfl⟩
  rw [← HK.out]
  go_wp2_with fail
  (with_reducible refine (pack_yes _ S k _ (by omega) (by omega) (HS.out.keep HC1.out) HSL.out).mono ?_)
  rintro x w2 ⟨g, rfl, h1, h2⟩
  have HC2 := Lib.hid (HC1.out.trans h1 (by simp))
  have HP := Lib.hid (reads_of_own h2).seen
  clear h1 h2
  generalize (packed k S).length = c at HP ⊢
  go_wp2_with fail
  (with_reducible refine (unpack_yes _ (packed k S) S.length k _ (by omega) (by omega) HP.out (packed_bytes k S) (fault_packed k S)).mono ?_)
  rintro x w3 ⟨g3, rfl, h1, h2⟩
  have HC3 := Lib.hid (HC2.out.trans h1 (by simp))
  rw [unpacked_packed] at h2
  have hml : (S.map (· % 2 ^ k)).length = S.length := by simp
  rw [hml] at h2
  have HU := Lib.hid h2
  clear hml
  clear h1 h2
  go_wp2
  go_loop [8, 9] (fun i v => ∃ j : Nat, j ≤ S.length ∧ i = .int .i64 (j : Int)) (fun i v => S.length - (intOf i).toNat)
  case atStart => exact ⟨0, Nat.zero_le _, rfl⟩
  case round =>
    obtain ⟨j, hj, rfl⟩ := hrel
    by_cases hlt : j < S.length
    · skip
      have hlt2 : decide (j < S.length) = true := by simpa using hlt
      obtain ⟨x, rfl, hx0⟩ := (HS.out.keep HC3.out).at rfl (by omega)
      have hx := hx0 j hlt
      have hy := own_cell HU.out (by simp) j hlt
      clear hx0
      have hs64 : S.getD j 0 ≤ 18446744073709551615 := by
        have h := HSL.out (S.getD j 0) (by simp only [List.getD, List.getElem?_eq_getElem hlt]; exact List.getElem_mem hlt)
        omega
      have em : (S.map (· % 2 ^ k)).getD j 0 = S.getD j 0 % 2 ^ k := by simp [List.getD, hlt]
      rw [em] at hy
      obtain ⟨s, hs⟩ : ∃ s, s = S.getD j 0 := ⟨_, rfl⟩
      rw [← hs] at hx hy hs64
      clear em hs
      by_cases h64 : k < 64
      · have hmk := Lib.hid (mask_eq s k hs64 h64)
        obtain ⟨t, ht⟩ : ∃ t, t = s % 2 ^ k := ⟨_, rfl⟩
        rw [← ht] at hy
        have HT := Lib.hid ht; clear ht
        have hbb : (bits BinOp.and IntKind.u64 (s : Int) (IntKind.u64.wrap (IntKind.u64.wrap (2 ^ k) - 1)) == (t : Int)) = true := by rw [hmk.out, ← HT.out]; simp
        have hbb2 : ((t : Int) != bits BinOp.and IntKind.u64 (s : Int) (IntKind.u64.wrap (IntKind.u64.wrap (2 ^ k) - 1))) = false := by rw [hmk.out, ← HT.out]; simp
        go_wp2
        go_round
        case rel => exact ⟨j + 1, hlt, by go_num⟩
        case measure => simp [intOf]; omega
      · have e : s % 2 ^ k = s := Nat.mod_eq_of_lt (by
          have : k = 64 := by omega
          rw [this]; omega)
        rw [e] at hy
        clear e
        go_wp2
        go_round
        case rel => exact ⟨j + 1, hlt, by go_num⟩
        case measure => simp [intOf]; omega
    · have hlt2 : decide (j < S.length) = false := by simpa using hlt
      go_wp2
      go_ret
      exact ⟨rfl, HC3.out.below (Nat.le_refl _) (by simp)⟩

end Go.Proofs.Ytkjgebijhhfknaa
