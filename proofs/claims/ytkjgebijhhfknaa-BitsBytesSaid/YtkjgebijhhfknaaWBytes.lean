/- The walk of the statement BitsBytes. -/
import Derived.Test.YtkjgebijhhfknaaWPlaces
namespace Go.Proofs.Ytkjgebijhhfknaa
open Go.RowKit
set_option linter.unusedVariables false

theorem fault_whole (b : List Nat) (n : Nat) (h : n = 8 * b.length) : faultOf b n = 0 := by
  subst h
  unfold faultOf
  rw [if_neg (by omega), if_neg (by omega), if_pos (Nat.div_eq_of_lt (strm_lt 8 b))]

theorem unpacked_bytes (b : List Nat) (hb : ∀ x ∈ b, x < 2 ^ 8) : unpacked b b.length 8 = b := by
  unfold unpacked
  exact pk_strm 8 b hb _ (Nat.le_refl _)

/-- The lowest bits of a byte from the k-th on. -/
def top (s k : Nat) : Nat := s / 2 ^ k

theorem top_next (s k : Nat) : top s k = 2 * top s (k + 1) + (if s.testBit k then 1 else 0) := by
  unfold top
  rw [Nat.pow_succ, ← Nat.div_div_eq_div_mul, Nat.testBit_eq_decide_div_mod_eq]
  by_cases c : s / 2 ^ k % 2 = 1 <;> simp [c] <;> omega

theorem unpacked_bit (b : List Nat) (i k : Nat) (hi : i < b.length) (hk : k < 8) : (unpacked b (8 * b.length) 1).getD (8 * i + k) 0 = if (b.getD i 0).testBit k then 1 else 0 := by
  have hl : 8 * i + k < 8 * b.length := by omega
  unfold unpacked
  rw [pk_getD _ _ _ _ _ hl, wd_whole _ _ _ _ (by omega)]
  rw [← tb_strm 8 b i k hk, Nat.one_mul, Nat.testBit_eq_decide_div_mod_eq]
  by_cases c : strm 8 b / 2 ^ (8 * i + k) % 2 = 1 <;> simp [c] <;> omega

set_option maxRecDepth 100000 in
set_option maxHeartbeats 1000000 in
theorem walk_BitsBytes (a0 : Option Addr) (len0 cap0 : Nat) (z0 : List Int) (w : World) (w0 : IsRow .u8 w a0 len0 cap0 z0) :
    Calls Try.prog 10 #[.slice a0 len0 cap0] w fun e w' => e = .returned (.bool true) ∧ Below w.heap.size w w' := by
  obtain ⟨S, hS, rfl, hSl⟩ := w0.u8s
  have HS := Lib.hid hS; have HSL := Lib.hid hSl
  clear w0 hS hSl
  by_cases hlen : 60 < S.length
  · go_enter Try.func10, Try.ntmps10
    go_wp2_with fail
    refine (known_any _).mono ?_
    rintro x w1 ⟨rfl, hk⟩
    have HC := Lib.hid hk; clear hk
    go_wp2
    go_ret
    exact ⟨rfl, HC.out.below (Nat.le_refl _) (by simp)⟩
  obtain ⟨M, hM⟩ : ∃ M, M = 8 * S.length := ⟨_, rfl⟩
  have hMi : 8 * (S.length : Int) = (M : Int) := by omega
  have HM := Lib.hid hM; clear hM
  go_enter Try.func10, Try.ntmps10
  go_wp2_with fail
  refine (known_any _).mono ?_
  rintro x w1 ⟨rfl, hk⟩
  have HC1 := Lib.hid hk; clear hk
  go_wp2_with fail
  refine (unpack_yes _ S S.length 8 _ (by omega) (by omega) (HS.out.keep HC1.out) HSL.out (fault_whole S _ rfl)).mono ?_
  rintro x w2 ⟨g, rfl, h1, h2⟩
  rw [unpacked_bytes S HSL.out] at h2
  have HC2 := Lib.hid (HC1.out.trans h1 (by simp))
  have HX := Lib.hid h2
  clear h1 h2
  go_wp2_with fail
  refine (unpack_yes _ S M 1 _ (by omega) (by omega) (HS.out.keep HC2.out) HSL.out (fault_whole S _ (by rw [HM.out, Nat.one_mul]))).mono ?_
  rintro x w3 ⟨g3, rfl, h1, h2⟩
  have HC3 := Lib.hid (HC2.out.trans h1 (by simp))
  rw [unpacked_length] at h2
  have HX3 := Lib.hid (HX.out.kept h1.toGrown0 (.inr (by simp [Value.ownBlock])))
  have HY := Lib.hid h2
  clear h1 h2
  go_wp2
  go_loopw [7] (fun i wr => ∃ j : Nat, j ≤ S.length ∧ i = .int .i64 (j : Int) ∧ ∃ n, wr = w3.drewN n) (fun i _ => S.length - (intOf i).toNat)
  case atStart => exact ⟨0, Nat.zero_le _, rfl, 0, rfl⟩
  case round =>
    obtain ⟨j, hj, rfl, nn, rfl⟩ := hrel
    by_cases hlt : j < S.length
    · have hlt2 : decide (j < S.length) = true := by simpa using hlt
      obtain ⟨x, rfl, hx0⟩ := (HS.out.keep HC3.out).at rfl (by omega)
      have hx := hx0 j hlt
      clear hx0
      have hs8 : S.getD j 0 ≤ 255 := by
        have h := HSL.out (S.getD j 0) (by simp only [List.getD, List.getElem?_eq_getElem hlt]; exact List.getElem_mem hlt)
        omega
      have hy := own_cell HX3.out rfl j hlt
      have hz := fun k hk => own_cell HY.out (unpacked_length _ _ _) (8 * j + k) hk
      have hu := fun k hk => unpacked_bit S j k hlt hk
      rw [← HM.out] at hu
      obtain ⟨s, hs⟩ : ∃ s, s = S.getD j 0 := ⟨_, rfl⟩
      rw [← hs] at hx hy hs8
      have hu2 : ∀ k, k < 8 → (unpacked S M 1).getD (8 * j + k) 0 = if s.testBit k then 1 else 0 := fun k hk => by rw [hu k hk, ← hs]
      have HZ := Lib.hid hz; have HU := Lib.hid hu2
      clear hz hu hu2 hs
      go_wp2
      go_loop [8, 9] (fun n k => ∃ k' : Nat, k' ≤ 8 ∧ k = .int .i64 ((k' : Int) - 1) ∧ n = .int .u64 ((top s k' : Nat) : Int)) (fun n k => (intOf k + 1).toNat)
      case atStart => exact ⟨8, Nat.le_refl _, rfl, by unfold top; rw [Nat.div_eq_of_lt (by omega)]; rfl⟩
      case round =>
        obtain ⟨k, hk, rfl, rfl⟩ := hrel
        by_cases hk0 : k = 0
        · subst hk0
          have htop : top s 0 = s := by unfold top; simp
          rw [htop]
          clear htop
          go_wp2
          go_quiet (fail)
          go_wp2
          go_roundw
          case rel => exact ⟨j + 1, hlt, by go_num, _, rfl⟩
          case measure => simp [intOf]; omega
        · obtain ⟨m, rfl⟩ : ∃ m, k = m + 1 := ⟨k - 1, by omega⟩
          rw [show (((m + 1 : Nat) : Int) - 1) = (m : Int) by omega]
          have hz := HZ.out m (by have := HM.out; omega)
          rw [HU.out m (by omega)] at hz
          have hn := Lib.hid (top_next s m)
          have hb : top s (m + 1) ≤ 127 := by
            unfold top
            have : 2 ^ (m + 1) = 2 * 2 ^ m := by rw [Nat.pow_succ, Nat.mul_comm]
            rw [this, ← Nat.div_div_eq_div_mul]
            have := Nat.div_le_self (s / 2) (2 ^ m)
            omega
          obtain ⟨t, ht⟩ : ∃ t, t = top s (m + 1) := ⟨_, rfl⟩
          rw [← ht] at hb hn ⊢
          clear ht
          obtain ⟨β, hβ⟩ : ∃ β : Nat, β = if s.testBit m then 1 else 0 := ⟨_, rfl⟩
          have hβ1 : β ≤ 1 := by rw [hβ]; split <;> omega
          rw [← hβ] at hz hn
          clear hβ
          obtain ⟨p, hp⟩ : ∃ p, p = 8 * j + m := ⟨_, rfl⟩
          have hjm : 8 * (j : Int) + (m : Int) = (p : Int) := by omega
          have hjm2 : p < M := by have := HM.out; omega
          rw [← hp] at hz
          clear hp
          go_wp2
          go_round
          case rel => exact ⟨m, by omega, (by first | rfl | go_num), (by rw [hn.out]; try go_num)⟩
          case measure => simp [intOf]
    · have hlt2 : decide (j < S.length) = false := by simpa using hlt
      go_wp2
      go_ret
      exact ⟨rfl, (HC3.out.drewN _).below (Nat.le_refl _) (by simp)⟩

end Go.Proofs.Ytkjgebijhhfknaa
