/- Contracts of package bits: size, between, fault, Pack, Unpack. -/
import Derived.Test.YtegidbbigjhapaaMv
namespace Go.Proofs.Ytegidbbigjhapaa
open Go.RowKit
set_option linter.unusedVariables false

theorem info_u64 : ∃ i, Try.prog.info? 65 = some i ∧ i.zero = some (.int .u64 0) ∧ i.size = 1 ∧ i.bytes = 8 :=
  info_parts (show (Try.prog.info? 65).map (fun i => (i.zero, i.size, i.bytes)) = some (some (.int .u64 0), 1, 8) by kernel_rfl)

set_option maxHeartbeats 400000 in
theorem bsize_any (n : Nat) (w : World) (hn : n < 1099511627776) :
    Calls Try.prog 71 #[.int .i64 n] w fun e w' => e = .returned (.int .i64 (((n + 7) / 8 : Nat) : Int)) ∧ w = w' := by
  go_enter Try.func71, Try.ntmps71
  go_wp2
  go_ret
  exact ⟨ret_int (by omega), rfl⟩

set_option maxHeartbeats 400000 in
theorem between_yes (n m : Int) (w : World) (h0 : 0 ≤ n) (h1 : n ≤ m) :
    Calls Try.prog 70 #[.int .i64 n, .int .i64 m] w fun e w' => e = .returned (.bool true) ∧ w = w' := by
  go_enter Try.func70, Try.ntmps70
  go_wp2
  go_ret
  exact ⟨rfl, rfl⟩

set_option maxHeartbeats 400000 in
theorem between_no (n m : Int) (w : World) (h0 : n < 0 ∨ m < n) :
    Calls Try.prog 70 #[.int .i64 n, .int .i64 m] w fun e w' => e = .returned (.bool false) ∧ w = w' := by
  by_cases h : 0 ≤ n
  · have h1 : m < n := by omega
    have hd : decide (n ≤ m) = false := by simp; omega
    clear h0
    go_enter Try.func70, Try.ntmps70
    go_wp2
    go_ret
    exact ⟨rfl, rfl⟩
  · have h1 : n < 0 := by omega
    clear h0 h
    go_enter Try.func70, Try.ntmps70
    go_wp2
    go_ret
    exact ⟨rfl, rfl⟩

/-- What packing makes. -/
def packed (w : Nat) (S : List Nat) : List Nat := pk (strm w S) (w * S.length) 8 ((w * S.length + 7) / 8)
@[simp] theorem packed_length (w : Nat) (S : List Nat) : (packed w S).length = (w * S.length + 7) / 8 := by simp [packed]

theorem cells_zero64 (n : Nat) : (madeCells #[Value.int .u64 0] n).toList = nv .u64 (List.replicate n 0) := by
  rw [toList_madeCells_one]; simp [nv]

set_option maxHeartbeats 400000 in
theorem pack_no (sv : Value) (width : Int) (w : World) (h : width < 0 ∨ 64 < width) :
    Calls Try.prog 57 #[sv, .int .i64 width] w fun e w' => e = .returned (.slice none 0 0) ∧ w = w' := by
  go_enter Try.func57, Try.ntmps57
  go_wp2_with fail
  refine (between_no _ _ _ h).mono ?_
  rintro e w1 ⟨rfl, rfl⟩
  go_wp2
  go_ret
  exact ⟨rfl, rfl⟩

set_option maxHeartbeats 1000000 in
theorem pack_yes (sv : Value) (S : List Nat) (width : Nat) (w : World) (hw : width ≤ 64) (hl : S.length ≤ 1000000) (hS : Seen w sv (nv .u64 S)) (hSl : ∀ x ∈ S, x < 2 ^ 64) :
    Calls Try.prog 57 #[sv, .int .i64 width] w fun e w' => ∃ g, e = .returned (.slice (some ⟨g, 0, none⟩) (packed width S).length (packed width S).length) ∧ Made 5 .u8 (packed width S) w (.slice (some ⟨g, 0, none⟩) (packed width S).length (packed width S).length) w' := by
  obtain ⟨i0, hi, hz0, hz1, hz2⟩ := info_u8
  obtain ⟨ao, cap, rfl, hc1, hc2⟩ := hS.shape
  rw [nv_length] at hc1 hS
  rw [nv_length]
  obtain ⟨N, hN⟩ : ∃ N, N = width * S.length := ⟨_, rfl⟩
  have hN2 : N < 1099511627776 := by
    have : width * S.length ≤ 64 * 1000000 := Nat.mul_le_mul hw hl
    omega
  have hNi : (S.length : Int) * (width : Int) = (N : Int) := by rw [hN]; push_cast; exact Int.mul_comm _ _
  have hNw : IntKind.i64.wrap (N : Int) = (N : Int) := IntWalk.i64_in _ (by omega)
  obtain ⟨cnt, hcnt⟩ : ∃ c, c = (N + 7) / 8 := ⟨_, rfl⟩
  have hcN : cnt ≤ N + 7 := by omega
  have HS := Lib.hid hS; have HSL := Lib.hid hSl; have HN := Lib.hid hN; have HCN := Lib.hid hcnt
  have hcm : cnt ≤ maxLen := by unfold maxLen; omega
  clear hS hSl hN hcnt
  go_enter Try.func57, Try.ntmps57
  go_wp2_with fail
  refine (between_yes _ _ _ (by omega) (by omega)).mono ?_
  rintro e w1 ⟨rfl, rfl⟩
  go_wp2_with fail
  refine (bsize_any N _ hN2).mono ?_
  rintro e w1 ⟨rfl, rfl⟩
  rw [← HCN.out]
  go_wp2_with (at_make; refine wpList_make_full _ rfl _ _ 34 rfl w.heap.size 5 i0 (.int .u8 0) 1 Try.underlying34 hi hz0 hz1 .i64 .i64 _ _ cnt rfl rfl rfl rfl ?c1 ?c2 (Nat.le_refl _) ?_)
  case c1 => rw [hz2]; omega
  case c2 => exact hcm
  intro w1 hown1 hg1
  rw [cells_zero8, ← pk_zero (strm width S) 8 cnt] at hown1
  have HC1 := Lib.hid ((Chg.refl [] w).grown hg1 (by simp))
  have HO1 := Lib.hid hown1
  clear hown1 hg1
  go_wp2_with fail
  refine (move8_any w.heap.size w.heap.size width cnt N _ S w _ hw HN.out hN2 HCN.out HS.out HSL.out HC1.out (Nat.le_refl _) HO1.out).mono ?_
  rintro e w2 ⟨rfl, g1, g2⟩
  have HC2 := Lib.hid (HC1.out.trans (T := [w.heap.size]) g1 (by simp)); have HO2 := Lib.hid g2
  clear g1 g2
  go_wp2
  go_ret
  have e1 : packed width S = pk (strm width S) N 8 cnt := by unfold packed; rw [← HN.out, ← HCN.out]
  have e2 : (pk (strm width S) N 8 cnt).length = cnt := pk_length _ _ _ _
  refine ⟨w.heap.size, by rw [e1, e2]; rfl, ?_⟩
  rw [e1]
  refine ⟨HC2.out, ?_⟩
  rw [e2]
  exact HO2.out


/-- What fault tells of bytes b and n bits. -/
def faultOf (b : List Nat) (n : Nat) : Int := if b.length < (n + 7) / 8 then 8 else if (n + 7) / 8 < b.length then 9 else if strm 8 b / 2 ^ n = 0 then 0 else 10

theorem last_bits (b : List Nat) (n : Nat) (hl : b.length = (n + 7) / 8) (hb : ∀ x ∈ b, x < 2 ^ 8) (hn : 0 < n % 8) : (b.getD (b.length - 1) 0 / 2 ^ (n % 8) = 0) ↔ strm 8 b / 2 ^ n = 0 := by
  have hlen : 0 < b.length := by omega
  have e1 : n = 8 * (b.length - 1) + n % 8 := by omega
  constructor
  · intro h
    apply Nat.eq_of_testBit_eq
    intro i
    rw [Nat.testBit_div_two_pow, Nat.zero_testBit]
    by_cases hi : i + n < 8 * b.length
    · have e2 : i + n = 8 * (b.length - 1) + (i + n % 8) := by omega
      rw [e2, tb_strm 8 b _ _ (by omega)]
      have : (b.getD (b.length - 1) 0 / 2 ^ (n % 8)).testBit i = false := by rw [h]; simp
      rwa [Nat.testBit_div_two_pow] at this
    · exact Nat.testBit_lt_two_pow (Nat.lt_of_lt_of_le (strm_lt 8 b) (Nat.pow_le_pow_right (by decide) (by omega)))
  · intro h
    apply Nat.eq_of_testBit_eq
    intro i
    rw [Nat.testBit_div_two_pow, Nat.zero_testBit]
    by_cases hi : i + n % 8 < 8
    · have : (strm 8 b / 2 ^ n).testBit i = false := by rw [h]; simp
      rw [Nat.testBit_div_two_pow] at this
      have e2 : i + n = 8 * (b.length - 1) + (i + n % 8) := by omega
      rwa [e2, tb_strm 8 b _ _ hi] at this
    · have h1 : b.getD (b.length - 1) 0 < 2 ^ 8 := by
        have : b.length - 1 < b.length := by omega
        simp only [List.getD, List.getElem?_eq_getElem this]
        exact hb _ (List.getElem_mem this)
      exact Nat.testBit_lt_two_pow (Nat.lt_of_lt_of_le h1 (Nat.pow_le_pow_right (by decide) (by omega)))

theorem whole_bits (b : List Nat) (n : Nat) (hl : b.length = (n + 7) / 8) (hn : n % 8 = 0) : strm 8 b / 2 ^ n = 0 := by
  have h := strm_lt 8 b
  have : 8 * b.length = n := by omega
  rw [this] at h
  exact Nat.div_eq_of_lt h

set_option maxHeartbeats 400000 in
theorem bfault_any (bv : Value) (b : List Nat) (n : Nat) (w : World) (hn : n < 1099511627776) (hS : Seen w bv (nv .u8 b)) (hb : ∀ x ∈ b, x < 2 ^ 8) :
    Calls Try.prog 80 #[bv, .int .i64 n] w fun e w' => e = .returned (.int .i64 (faultOf b n)) ∧ w = w' := by
  obtain ⟨ao, cap, rfl, hc1, hc2⟩ := hS.shape
  rw [nv_length] at hc1 hS
  rw [nv_length]
  have HS := Lib.hid hS; have HB := Lib.hid hb; clear hS hb
  obtain ⟨c, hc⟩ : ∃ c, c = (n + 7) / 8 := ⟨_, rfl⟩
  have HC := Lib.hid hc
  unfold faultOf
  by_cases h1 : b.length < c
  · rw [← hc, if_pos h1]
    clear hc
    have hd : decide (b.length < c) = true := by simpa using h1
    go_enter Try.func80, Try.ntmps80
    go_wp2_with fail
    refine (bsize_any n _ hn).mono ?_
    rintro e w1 ⟨rfl, rfl⟩
    rw [← HC.out]
    go_wp2
    go_ret
    exact ⟨rfl, rfl⟩
  · rw [← hc, if_neg h1]
    have hd : decide (b.length < c) = false := by simpa using h1
    by_cases h2 : c < b.length
    · rw [if_pos h2]
      clear hc
      have hd2 : decide (c < b.length) = true := by simpa using h2
      go_enter Try.func80, Try.ntmps80
      go_wp2_with fail
      refine (bsize_any n _ hn).mono ?_
      rintro e w1 ⟨rfl, rfl⟩
      rw [← HC.out]
      go_wp2_with fail
      refine (bsize_any n _ hn).mono ?_
      rintro e w1 ⟨rfl, rfl⟩
      rw [← HC.out]
      go_wp2
      go_ret
      exact ⟨rfl, rfl⟩
    · rw [if_neg h2]
      have hd2 : decide (c < b.length) = false := by simpa using h2
      have hbl := Lib.hid (show b.length = (n + 7) / 8 by omega)
      by_cases h3 : n % 8 = 0
      · rw [if_pos (whole_bits b n hbl.out h3)]
        have hd3 : decide (0 < (n : Int) % 8) = false := by simp; omega
        clear hc h1 h2 h3
        go_enter Try.func80, Try.ntmps80
        go_wp2_with fail
        refine (bsize_any n _ hn).mono ?_
        rintro e w1 ⟨rfl, rfl⟩
        rw [← HC.out]
        go_wp2_with fail
        refine (bsize_any n _ hn).mono ?_
        rintro e w1 ⟨rfl, rfl⟩
        rw [← HC.out]
        go_wp2
        go_ret
        exact ⟨rfl, rfl⟩
      · have hd3 : decide (0 < (n : Int) % 8) = true := by simp; omega
        have hlen : 0 < b.length := by omega
        obtain ⟨x, rfl, hx⟩ := HS.out.at rfl hlen
        have hx1 := hx (b.length - 1) (by omega)
        obtain ⟨r, hr⟩ : ∃ r, r = n % 8 := ⟨_, rfl⟩
        have hrr : (n : Int) % 8 = (r : Int) := by omega
        obtain ⟨s, hs⟩ : ∃ s, s = b.getD (b.length - 1) 0 := ⟨_, rfl⟩
        have hs8 : s < 256 := by
          have h1 : b.getD (b.length - 1) 0 < 2 ^ 8 := by
            have : b.length - 1 < b.length := by omega
            simp only [List.getD, List.getElem?_eq_getElem this]
            exact HB.out _ (List.getElem_mem this)
          omega
        have hlb := Lib.hid (last_bits b n hbl.out HB.out (by omega))
        rw [← hs] at hx1
        have hbm : (b.length : Int) - 1 = ((b.length - 1 : Nat) : Int) := by omega
        have hr8 : r < 8 := by omega
        have hr0 : 0 < r := by omega
        have hww : wrap64 ((b.length - 1 : Nat) : Int) = ((b.length - 1 : Nat) : Int) := IntWalk.wrap64_in _ (by unfold maxLen at hc2; omega)
        by_cases h4 : s / 2 ^ r = 0
        · rw [if_pos (hlb.out.1 (by rw [← hs, ← hr]; exact h4))]
          have hd4 : decide (0 < (s : Int) / 2 ^ r) = false := by
            have : (s : Int) / 2 ^ r = ((s / 2 ^ r : Nat) : Int) := by simp
            rw [this, h4]; rfl
          clear hc h1 h2 h3 hx hs hr h4
          go_enter Try.func80, Try.ntmps80
          go_wp2_with fail
          refine (bsize_any n _ hn).mono ?_
          rintro e w1 ⟨rfl, rfl⟩
          rw [← HC.out]
          go_wp2_with fail
          refine (bsize_any n _ hn).mono ?_
          rintro e w1 ⟨rfl, rfl⟩
          rw [← HC.out]
          go_wp2
          go_ret
          exact ⟨rfl, rfl⟩
        · rw [if_neg (fun h => h4 (by have := hlb.out.2 h; rwa [← hs, ← hr] at this))]
          have hd4 : decide (0 < (s : Int) / 2 ^ r) = true := by
            have : (s : Int) / 2 ^ r = ((s / 2 ^ r : Nat) : Int) := by simp
            have h5 : 0 < s / 2 ^ r := Nat.pos_of_ne_zero h4
            exact decide_eq_true (by rw [this]; exact_mod_cast h5)
          clear hc h1 h2 h3 hx hs hr h4
          go_enter Try.func80, Try.ntmps80
          go_wp2_with fail
          refine (bsize_any n _ hn).mono ?_
          rintro e w1 ⟨rfl, rfl⟩
          rw [← HC.out]
          go_wp2_with fail
          refine (bsize_any n _ hn).mono ?_
          rintro e w1 ⟨rfl, rfl⟩
          rw [← HC.out]
          go_wp2
          go_ret
          exact ⟨rfl, rfl⟩


theorem unpack_args (bv : Value) (n width : Int) (w : World) (h : n < 0 ∨ 4000 < n ∨ width < 0 ∨ 64 < width) :
    Calls Try.prog 75 #[bv, .int .i64 n, .int .i64 width] w fun e w' => e = .returned (.tuple #[.slice none 0 0, .int .i64 1]) ∧ w = w' := by
  by_cases h1 : n < 0 ∨ 4000 < n
  · clear h
    go_enter Try.func75, Try.ntmps75
    go_wp2_with fail
    refine (between_no _ _ _ h1).mono ?_
    rintro e w1 ⟨rfl, rfl⟩
    go_wp2
    go_ret2
    exact ⟨rfl, rfl⟩
  · have h2 : width < 0 ∨ 64 < width := by omega
    have h3 : 0 ≤ n := by omega
    have h4 : n ≤ 4000 := by omega
    clear h h1
    go_enter Try.func75, Try.ntmps75
    go_wp2_with fail
    refine (between_yes _ _ _ h3 h4).mono ?_
    rintro e w1 ⟨rfl, rfl⟩
    go_wp2_with fail
    refine (between_no _ _ _ h2).mono ?_
    rintro e w1 ⟨rfl, rfl⟩
    go_wp2
    go_ret2
    exact ⟨rfl, rfl⟩

/-- What Unpack reads. -/
def unpacked (b : List Nat) (n w : Nat) : List Nat := pk (strm 8 b) (w * n) w n
@[simp] theorem unpacked_length (b : List Nat) (n w : Nat) : (unpacked b n w).length = n := by simp [unpacked]

set_option maxHeartbeats 1000000 in
theorem unpack_no (bv : Value) (b : List Nat) (n width : Nat) (w : World) (hn : n ≤ 4000) (hw : width ≤ 64) (hS : Seen w bv (nv .u8 b)) (hb : ∀ x ∈ b, x < 2 ^ 8) (hf : faultOf b (width * n) ≠ 0) :
    Calls Try.prog 75 #[bv, .int .i64 n, .int .i64 width] w fun e w' => e = .returned (.tuple #[.slice none 0 0, .int .i64 (faultOf b (width * n))]) ∧ w = w' := by
  obtain ⟨N, hN⟩ : ∃ N, N = width * n := ⟨_, rfl⟩
  have hN2 : N < 1099511627776 := by
    have : width * n ≤ 64 * 4000 := Nat.mul_le_mul hw hn
    omega
  have hNi : (n : Int) * (width : Int) = (N : Int) := by rw [hN]; push_cast; exact Int.mul_comm _ _
  rw [← hN] at hf ⊢
  obtain ⟨ao, cap, rfl, hc1, hc2⟩ := hS.shape
  rw [nv_length] at hc1 hS
  rw [nv_length]
  have HS := Lib.hid hS; have HB := Lib.hid hb; clear hS hb hN
  obtain ⟨f, hfe⟩ : ∃ f, f = faultOf b N := ⟨_, rfl⟩
  rw [← hfe] at hf ⊢
  have HF := Lib.hid hfe; clear hfe
  have hff : (f == 0) = false := by simpa using hf
  have hff2 : (f != 0) = true := by simpa using hf
  clear hf
  go_enter Try.func75, Try.ntmps75
  go_wp2_with fail
  refine (between_yes _ _ _ (by omega) (by omega)).mono ?_
  rintro e w1 ⟨rfl, rfl⟩
  go_wp2_with fail
  refine (between_yes _ _ _ (by omega) (by omega)).mono ?_
  rintro e w1 ⟨rfl, rfl⟩
  go_wp2_with fail
  refine (bfault_any _ b N _ hN2 HS.out HB.out).mono ?_
  rintro e w1 ⟨rfl, rfl⟩
  rw [← HF.out]
  go_wp2
  go_ret2
  exact ⟨rfl, rfl⟩

set_option maxHeartbeats 1000000 in
theorem unpack_yes (bv : Value) (b : List Nat) (n width : Nat) (w : World) (hn : n ≤ 4000) (hw : width ≤ 64) (hS : Seen w bv (nv .u8 b)) (hb : ∀ x ∈ b, x < 2 ^ 8) (hf : faultOf b (width * n) = 0) :
    Calls Try.prog 75 #[bv, .int .i64 n, .int .i64 width] w fun e w' => ∃ g, e = .returned (.tuple #[.slice (some ⟨g, 0, none⟩) n n, .int .i64 0]) ∧ Made 65 .u64 (unpacked b n width) w (.slice (some ⟨g, 0, none⟩) n n) w' := by
  obtain ⟨i0, hi, hz0, hz1, hz2⟩ := info_u64
  obtain ⟨N, hN⟩ : ∃ N, N = width * n := ⟨_, rfl⟩
  have hN2 : N < 1099511627776 := by
    have : width * n ≤ 64 * 4000 := Nat.mul_le_mul hw hn
    omega
  have hNi : (n : Int) * (width : Int) = (N : Int) := by rw [hN]; push_cast; exact Int.mul_comm _ _
  have hNb : N ≤ 8 * b.length := by
    rw [← hN] at hf
    unfold faultOf at hf
    by_cases h1 : b.length < (N + 7) / 8
    · rw [if_pos h1] at hf; omega
    · omega
  rw [← hN] at hf
  obtain ⟨ao, cap, rfl, hc1, hc2⟩ := hS.shape
  rw [nv_length] at hc1 hS
  rw [nv_length]
  have HS := Lib.hid hS; have HB := Lib.hid hb; have HN := Lib.hid hN; clear hS hb hN
  have HF := Lib.hid hf; clear hf
  have hcm : n ≤ maxLen := by unfold maxLen; omega
  go_enter Try.func75, Try.ntmps75
  go_wp2_with fail
  refine (between_yes _ _ _ (by omega) (by omega)).mono ?_
  rintro e w1 ⟨rfl, rfl⟩
  go_wp2_with fail
  refine (between_yes _ _ _ (by omega) (by omega)).mono ?_
  rintro e w1 ⟨rfl, rfl⟩
  go_wp2_with fail
  refine (bfault_any _ b N _ hN2 HS.out HB.out).mono ?_
  rintro e w1 ⟨rfl, rfl⟩
  rw [HF.out]
  go_wp2_with (at_make; refine wpList_make_full _ rfl _ _ 74 rfl w.heap.size 65 i0 (.int .u64 0) 1 Try.underlying74 hi hz0 hz1 .i64 .i64 _ _ n rfl rfl rfl rfl ?c1 ?c2 (Nat.le_refl _) ?_)
  case c1 => rw [hz2]; omega
  case c2 => exact hcm
  intro w1 hown1 hg1
  rw [cells_zero64, ← pk_zero (strm 8 b) width n] at hown1
  have HC1 := Lib.hid ((Chg.refl [] w).grown hg1 (by simp))
  have HO1 := Lib.hid hown1
  clear hown1 hg1
  go_wp2_with fail
  refine (move64_any w.heap.size w.heap.size width n N _ b w _ hw HN.out hN2 hNb HS.out HB.out HC1.out (Nat.le_refl _) HO1.out).mono ?_
  rintro e w2 ⟨rfl, g1, g2⟩
  have HC2 := Lib.hid (HC1.out.trans (T := [w.heap.size]) g1 (by simp)); have HO2 := Lib.hid g2
  clear g1 g2
  go_wp2
  go_ret2
  have e1 : unpacked b n width = pk (strm 8 b) N width n := by unfold unpacked; rw [← HN.out]
  refine ⟨w.heap.size, rfl, HC2.out, ?_⟩
  rw [unpacked_length, e1]
  exact HO2.out

end Go.Proofs.Ytegidbbigjhapaa
