/- Contracts of the reference (shredderref2): size, Pack. -/
import Derived.Test.YtegidbbigjhapaaPk
namespace Go.Proofs.Ytegidbbigjhapaa
open Go.RowKit
set_option linter.unusedVariables false

set_option maxHeartbeats 400000 in
theorem brsize_any (n width : Nat) (N : Nat) (w : World) (hN : (n : Int) * (width : Int) = (N : Int)) (hn : N < 1099511627776) :
    Calls Try.prog 63 #[.int .i64 n, .int .i64 width] w fun e w' => e = .returned (.int .i64 (((N + 7) / 8 : Nat) : Int)) ∧ w = w' := by
  have hNw : IntKind.i64.wrap (N : Int) = (N : Int) := IntWalk.i64_in _ (by omega)
  go_enter Try.func63, Try.ntmps63
  go_wp2
  go_ret
  exact ⟨ret_int (by omega), rfl⟩

theorem rpack_no (sv : Value) (width : Int) (w : World) (h : width < 0 ∨ 64 < width) :
    Calls Try.prog 45 #[sv, .int .i64 width] w fun e w' => e = .returned (.slice none 0 0) ∧ w = w' := by
  by_cases h1 : width < 0
  · clear h
    go_enter Try.func45, Try.ntmps45
    go_wp2
    go_ret
    exact ⟨rfl, rfl⟩
  · have h2 : 64 < width := by omega
    clear h
    go_enter Try.func45, Try.ntmps45
    go_wp2
    go_ret
    exact ⟨rfl, rfl⟩

theorem orb_eq (d r : Nat) (hd : d ≤ 255) (hr : r < 8) :
    bits BinOp.or IntKind.u8 (d : Int) (2 ^ r % 256) = ((d ||| 2 ^ r : Nat) : Int) := by
  have hp2 : 2 ^ r ≤ 2 ^ 7 := Nat.pow_le_pow_right (by decide) (by omega)
  have e1 : ((2 : Int) ^ r) = ((2 ^ r : Nat) : Int) := by simp
  rw [e1]
  generalize 2 ^ r = m at hp2
  rw [show (m : Int) % 256 = m by omega]
  exact (bits_nat .u8 8 (by decide) wraps_u8 d _ (by omega) (by omega)).2

theorem bit64 (s k : Nat) (hs : s ≤ 18446744073709551615) : bits BinOp.and IntKind.u64 ((s : Int) / 2 ^ k) 1 = if s.testBit k then 1 else 0 := by
  have e4 : (s : Int) / 2 ^ k = ((s / 2 ^ k : Nat) : Int) := by simp
  have hl : s / 2 ^ k ≤ s := Nat.div_le_self _ _
  have h := bits_mask .u64 64 (by decide) wraps64 1 (by omega) ((s / 2 ^ k : Nat) : Int) (Int.natCast_nonneg _) (by omega)
  rw [e4]
  rw [show ((2 : Int) ^ 1 - 1) = 1 from rfl] at h
  rw [h, Nat.testBit_eq_decide_div_mod_eq]
  by_cases c : s / 2 ^ k % 2 = 1 <;> simp [c] <;> omega

theorem bit8 (s k : Nat) (hs : s ≤ 255) : bits BinOp.and IntKind.u8 ((s : Int) / 2 ^ k) 1 = if s.testBit k then 1 else 0 := by
  have e4 : (s : Int) / 2 ^ k = ((s / 2 ^ k : Nat) : Int) := by simp
  have hl : s / 2 ^ k ≤ s := Nat.div_le_self _ _
  have h := bits_mask .u8 8 (by decide) wraps_u8 1 (by omega) ((s / 2 ^ k : Nat) : Int) (Int.natCast_nonneg _) (by omega)
  rw [e4]
  rw [show ((2 : Int) ^ 1 - 1) = 1 from rfl] at h
  rw [h, Nat.testBit_eq_decide_div_mod_eq]
  by_cases c : s / 2 ^ k % 2 = 1 <;> simp [c] <;> omega

set_option maxRecDepth 100000 in
set_option maxHeartbeats 1000000 in
theorem rpack_yes (sv : Value) (S : List Nat) (width : Nat) (w : World) (hw : width ≤ 64) (hl : S.length ≤ 1000000) (hS : Seen w sv (nv .u64 S)) (hSl : ∀ x ∈ S, x < 2 ^ 64) :
    Calls Try.prog 45 #[sv, .int .i64 width] w fun e w' => ∃ g, e = .returned (.slice (some ⟨g, 0, none⟩) (packed width S).length (packed width S).length) ∧ Made 5 .u8 (packed width S) w (.slice (some ⟨g, 0, none⟩) (packed width S).length (packed width S).length) w' := by
  obtain ⟨i0, hi, hz0, hz1, hz2⟩ := info_u8
  obtain ⟨ao, cap, rfl, hc1, hc2⟩ := hS.shape
  rw [nv_length] at hc1 hS
  rw [nv_length]
  obtain ⟨N, hN⟩ : ∃ N, N = width * S.length := ⟨_, rfl⟩
  have hN2 : N < 1099511627776 := by
    have : width * S.length ≤ 64 * 1000000 := Nat.mul_le_mul hw hl
    omega
  have hNi : (S.length : Int) * (width : Int) = (N : Int) := by rw [hN]; push_cast; exact Int.mul_comm _ _
  have HNI := Lib.hid hNi; clear hNi
  obtain ⟨cnt, hcnt⟩ : ∃ c, c = (N + 7) / 8 := ⟨_, rfl⟩
  have hcN : cnt ≤ N + 7 := by omega
  have HS := Lib.hid hS; have HSL := Lib.hid hSl; have HN := Lib.hid hN; have HCN := Lib.hid hcnt
  have hcm : cnt ≤ maxLen := by unfold maxLen; omega
  clear hS hSl hN hcnt
  go_enter Try.func45, Try.ntmps45
  go_wp2_with fail
  refine (brsize_any _ _ N _ HNI.out hN2).mono ?_
  rintro e w1 ⟨rfl, rfl⟩
  rw [← HCN.out]
  go_wp2_with (at_make; refine wpList_make_full _ rfl _ _ 34 rfl w.heap.size 5 i0 (.int .u8 0) 1 Try.underlying34 hi hz0 hz1 .i64 .i64 _ _ cnt rfl rfl rfl rfl ?c1 ?c2 (Nat.le_refl _) ?_)
  case c1 => rw [hz2]; omega
  case c2 => exact hcm
  intro w1 hown1 hg1
  rw [cells_zero8, ← pk_zero (strm width S) 8 cnt] at hown1
  have HC1 := Lib.hid ((Chg.refl [] w).grown hg1 (by simp))
  have HO1 := Lib.hid hown1
  clear hown1 hg1
  go_wp2
  go_loopw [6, 7] (fun at_ i wr => ∃ j : Nat, j ≤ S.length ∧ at_ = .int .i64 ((width * j : Nat) : Int) ∧ i = .int .i64 (j : Int) ∧ Chg [] w wr ∧ wr.ownsRow w.heap.size 5 1 (.slice (some ⟨w.heap.size, 0, none⟩) cnt cnt) cnt (nv .u8 (pk (strm width S) (width * j) 8 cnt))) (fun _ i _ => S.length - (intOf i).toNat)
  case atStart => exact ⟨0, Nat.zero_le _, rfl, rfl, HC1.out, HO1.out⟩
  case round =>
    obtain ⟨j, hj, rfl, rfl, hcj, hoj⟩ := hrel
    have HCJ := Lib.hid hcj; have HOJ := Lib.hid hoj; clear hcj hoj
    by_cases hlt : j < S.length
    · obtain ⟨A0, hA0⟩ : ∃ A0, A0 = width * j := ⟨_, rfl⟩
      have hA1 : A0 + width ≤ N := by
        have h := HN.out
        have : width * (j + 1) ≤ width * S.length := Nat.mul_le_mul_left _ hlt
        rw [Nat.mul_add, Nat.mul_one] at this
        omega
      rw [← hA0] at HOJ ⊢
      have HA := Lib.hid hA0; clear hA0
      obtain ⟨x, rfl, hcell⟩ := (HS.out).at rfl (by omega)
      have hxw := Lib.hid (hcell j hlt)
      have hs64 : S.getD j 0 ≤ 18446744073709551615 := by
        have h := HSL.out (S.getD j 0) (by simp only [List.getD, List.getElem?_eq_getElem hlt]; exact List.getElem_mem hlt)
        omega
      clear hcell
      obtain ⟨s, hs⟩ : ∃ s, s = S.getD j 0 := ⟨_, rfl⟩
      rw [← hs] at hxw hs64
      have HSJ := Lib.hid hs; clear hs
      have hlt2 : decide (j < S.length) = true := by simpa using hlt
      go_wp2
      go_loopw [6, 8] (fun at_ k wx => ∃ k' : Nat, k' ≤ width ∧ at_ = .int .i64 ((A0 + k' : Nat) : Int) ∧ k = .int .i64 (k' : Int) ∧ Chg [] w wx ∧ wx.ownsRow w.heap.size 5 1 (.slice (some ⟨w.heap.size, 0, none⟩) cnt cnt) cnt (nv .u8 (pk (strm width S) (A0 + k') 8 cnt))) (fun _ k _ => width - (intOf k).toNat)
      case atStart => exact ⟨0, Nat.zero_le _, rfl, rfl, HCJ.out, HOJ.out⟩
      case round =>
        obtain ⟨k, hk, rfl, rfl, hck, hok⟩ := hrel
        have HCK := Lib.hid hck; have HOK := Lib.hid hok; clear hck hok
        by_cases hkw : k < width
        · have hkw2 : decide (k < width) = true := by simpa using hkw
          obtain ⟨a, ha⟩ : ∃ a, a = A0 + k := ⟨_, rfl⟩
          have haN : a < N := by omega
          have hac : a / 8 < cnt := by have := HCN.out; omega
          rw [← ha] at HOK ⊢
          have hnext : Hid (A0 + (k + 1) = a + 1) := Lib.hid (by omega)
          have HAK := Lib.hid ha; clear ha
          have hbit := Lib.hid (tb_strm width S j k hkw)
          have hx1 := HCK.out.cell hxw.out (by simp)
          have h64 := bit64 s k hs64
          have hX : Hid ((strm width S).testBit a = s.testBit k) := Lib.hid (by rw [HSJ.out, HAK.out, HA.out]; exact hbit.out)
          by_cases hb : s.testBit k = true
          · rw [if_pos hb] at h64
            have hbb : (bits BinOp.and IntKind.u64 ((s : Int) / 2 ^ k) 1 == 1) = true := by rw [h64]; rfl
            have HXT := Lib.hid (hX.out.trans hb)
            clear h64 hb hX hbit
            have hy := own_cell HOK.out (by simp) (a / 8) hac
            have hfy := HOK.out.frozenAt (a / 8)
            obtain ⟨d, hd⟩ : ∃ d, d = (pk (strm width S) a 8 cnt).getD (a / 8) 0 := ⟨_, rfl⟩
            rw [← hd] at hy
            have hd8 : d ≤ 255 := by
              rw [hd, pk_getD _ _ _ _ _ hac]
              have := wd_lt (strm width S) a 8 (a / 8)
              omega
            have HDD := Lib.hid hd; clear hd
            go_wp2
            have hst := HOK.out.stored (a / 8) (.int .u8 ((d ||| 2 ^ (a % 8) : Nat) : Int))
            rw [nv_set, HDD.out, pk_getD _ _ _ _ _ hac, ← pk_bit (strm width S) a 8 cnt (by decide) HXT.out] at hst
            rw [pk_getD _ _ _ _ _ hac] at HDD
            rw [← HDD.out] at hst
            have hcc : Chg [] w (wr.setCell ⟨w.heap.size, a / 8, none⟩ (.int .u8 ((d ||| 2 ^ (a % 8) : Nat) : Int))) := HCK.out.setCell (by simp) _
            rw [orb_eq d (a % 8) hd8 (by omega)]
            go_roundw
            case rel => exact ⟨k + 1, by omega, by rw [hnext.out]; go_num, by go_num, hcc, by rw [hnext.out]; exact hst.1⟩
            case measure => simp [intOf]; omega
          · rw [if_neg hb] at h64
            have hbb : (bits BinOp.and IntKind.u64 ((s : Int) / 2 ^ k) 1 == 1) = false := by rw [h64]; rfl
            have HXF := Lib.hid (hX.out.trans (by simpa using hb : s.testBit k = false))
            clear h64 hb hX hbit
            go_wp2
            go_roundw
            case rel => exact ⟨k + 1, by omega, by rw [hnext.out]; go_num, by go_num, HCK.out, by rw [hnext.out, pk_nobit _ _ _ _ HXF.out]; exact HOK.out⟩
            case measure => simp [intOf]; omega
        · have hkw2 : decide (k < width) = false := by simpa using hkw
          have hkk := Lib.hid (show k = width by omega)
          go_wp2
          go_roundw
          case rel => exact ⟨j + 1, hlt, by rw [Nat.mul_add, Nat.mul_one, ← HA.out, ← hkk.out], by go_num, HCK.out, by have h := HOK.out; rw [hkk.out, HA.out] at h; rw [Nat.mul_add, Nat.mul_one]; exact h⟩
          case measure => simp [intOf]; omega
    · have hlt2 : decide (j < S.length) = false := by simpa using hlt
      have hjl := Lib.hid (show j = S.length by omega)
      go_wp2
      go_ret
      have e1 : packed width S = pk (strm width S) N 8 cnt := by unfold packed; rw [← HN.out, ← HCN.out]
      have e2 : (pk (strm width S) N 8 cnt).length = cnt := pk_length _ _ _ _
      refine ⟨w.heap.size, by rw [e1, e2]; rfl, ?_⟩
      rw [e1]
      refine ⟨HCJ.out, ?_⟩
      rw [e2]
      have h := HOJ.out
      rw [hjl.out, ← HN.out] at h
      exact h


theorem runpack_args (bv : Value) (n width : Int) (w : World) (h : n < 0 ∨ 4000 < n ∨ width < 0 ∨ 64 < width) :
    Calls Try.prog 52 #[bv, .int .i64 n, .int .i64 width] w fun e w' => e = .returned (.tuple #[.slice none 0 0, .int .i64 1]) ∧ w = w' := by
  by_cases h1 : n < 0
  · clear h
    go_enter Try.func52, Try.ntmps52
    go_wp2
    go_ret2
    exact ⟨rfl, rfl⟩
  by_cases h2 : 4000 < n
  · clear h
    go_enter Try.func52, Try.ntmps52
    go_wp2
    go_ret2
    exact ⟨rfl, rfl⟩
  by_cases h3 : width < 0
  · clear h
    go_enter Try.func52, Try.ntmps52
    go_wp2
    go_ret2
    exact ⟨rfl, rfl⟩
  have h4 : 64 < width := by omega
  clear h
  go_enter Try.func52, Try.ntmps52
  go_wp2
  go_ret2
  exact ⟨rfl, rfl⟩

/-- The numbers that are read, none where it is refused. -/
def outU (b : List Nat) (n w : Nat) : List Nat := if faultOf b (w * n) = 0 then unpacked b n w else []

/-- What Unpack answers, the program's and the reference's. -/
def UnpackOut (b : List Nat) (n width : Nat) (w : World) (e : Ending) (w' : World) : Prop :=
  ∃ v, e = .returned (.tuple #[v, .int .i64 (faultOf b (width * n))]) ∧ Made 65 .u64 (outU b n width) w v w'

theorem made_nil (w : World) : Made 65 .u64 [] w (.slice none 0 0) w := ⟨Chg.refl _ _, ⟨rfl, .inl ⟨rfl, rfl⟩⟩⟩

theorem unpack_any (bv : Value) (b : List Nat) (n width : Nat) (w : World) (hn : n ≤ 4000) (hw : width ≤ 64) (hS : Seen w bv (nv .u8 b)) (hb : ∀ x ∈ b, x < 2 ^ 8) :
    Calls Try.prog 75 #[bv, .int .i64 n, .int .i64 width] w (UnpackOut b n width w) := by
  by_cases hf : faultOf b (width * n) = 0
  · refine (unpack_yes bv b n width w hn hw hS hb hf).mono ?_
    rintro e w' ⟨g, rfl, h⟩
    refine ⟨_, by rw [hf], ?_⟩
    unfold outU
    rw [if_pos hf]
    exact h
  · refine (unpack_no bv b n width w hn hw hS hb hf).mono ?_
    rintro e w' ⟨rfl, rfl⟩
    refine ⟨_, rfl, ?_⟩
    unfold outU
    rw [if_neg hf]
    exact made_nil _

theorem bitor_eq (v s r k : Nat) (hs : s ≤ 255) (hv : v ≤ 18446744073709551615) (hk : k < 64) :
    bits BinOp.or IntKind.u64 (v : Int) (IntKind.u64.wrap (IntKind.u64.wrap (bits BinOp.and IntKind.u8 ((s : Int) / 2 ^ r) 1) * 2 ^ k)) = ((v ||| (if s.testBit r then 1 else 0) * 2 ^ k : Nat) : Int) := by
  have hp2 : 2 ^ k ≤ 2 ^ 63 := Nat.pow_le_pow_right (by decide) (by omega)
  rw [bit8 s r hs]
  by_cases c : s.testBit r = true
  · rw [if_pos c, if_pos c, wraps64 1 (by decide) (by decide)]
    exact or64_eq v 1 k hv (by omega)
  · rw [if_neg c, if_neg c, wraps64 0 (by decide) (by decide)]
    exact or64_eq v 0 k hv (by omega)

set_option maxRecDepth 100000 in
set_option maxHeartbeats 1000000 in
theorem runpack_any (bv : Value) (b : List Nat) (n width : Nat) (w : World) (hn : n ≤ 4000) (hw : width ≤ 64) (hbl : b.length < 137438953472) (hS : Seen w bv (nv .u8 b)) (hb : ∀ x ∈ b, x < 2 ^ 8) :
    Calls Try.prog 52 #[bv, .int .i64 n, .int .i64 width] w (UnpackOut b n width w) := by
  obtain ⟨N, hN⟩ : ∃ N, N = width * n := ⟨_, rfl⟩
  have hN2 : N < 1099511627776 := by
    have : width * n ≤ 64 * 4000 := Nat.mul_le_mul hw hn
    omega
  have hNi : (n : Int) * (width : Int) = (N : Int) := by rw [hN]; push_cast; exact Int.mul_comm _ _
  have HNI := Lib.hid hNi; clear hNi
  obtain ⟨ao, cap, rfl, hc1, hc2⟩ := hS.shape
  rw [nv_length] at hc1 hS
  rw [nv_length]
  have HS := Lib.hid hS; have HB := Lib.hid hb; have HN := Lib.hid hN; clear hS hb hN
  obtain ⟨c, hc⟩ : ∃ c, c = (N + 7) / 8 := ⟨_, rfl⟩
  have HC := Lib.hid hc
  by_cases h1 : b.length < c
  · have hf : faultOf b (width * n) = 8 := by unfold faultOf; rw [← HN.out, ← hc, if_pos h1]
    have hd : decide (b.length < c) = true := by simpa using h1
    have HF := Lib.hid hf
    clear hc hf
    go_enter Try.func52, Try.ntmps52
    go_wp2_with fail
    refine (brsize_any _ _ N _ HNI.out hN2).mono ?_
    rintro e w1 ⟨rfl, rfl⟩
    rw [← HC.out]
    go_wp2
    go_ret2
    refine ⟨.slice none 0 0, by rw [HF.out]; rfl, ?_⟩
    unfold outU
    rw [if_neg (by rw [HF.out]; decide)]
    exact made_nil _
  have hd : decide (b.length < c) = false := by simpa using h1
  by_cases h2 : c < b.length
  · have hf : faultOf b (width * n) = 9 := by unfold faultOf; rw [← HN.out, ← hc, if_neg h1, if_pos h2]
    have hd2 : decide (c < b.length) = true := by simpa using h2
    have HF := Lib.hid hf
    clear hc hf h1 h2
    go_enter Try.func52, Try.ntmps52
    go_wp2_with fail
    refine (brsize_any _ _ N _ HNI.out hN2).mono ?_
    rintro e w1 ⟨rfl, rfl⟩
    rw [← HC.out]
    go_wp2_with fail
    refine (brsize_any _ _ N _ HNI.out hN2).mono ?_
    rintro e w1 ⟨rfl, rfl⟩
    rw [← HC.out]
    go_wp2
    go_ret2
    refine ⟨.slice none 0 0, by rw [HF.out]; rfl, ?_⟩
    unfold outU
    rw [if_neg (by rw [HF.out]; decide)]
    exact made_nil _
  have hd2 : decide (c < b.length) = false := by simpa using h2
  have hbc : b.length = c := by omega
  have hNb : N ≤ 8 * b.length := by omega
  have hff : Hid (faultOf b (width * n) = if strm 8 b / 2 ^ N = 0 then 0 else 10) := Lib.hid (by unfold faultOf; rw [← HN.out, ← hc, if_neg h1, if_neg h2])
  obtain ⟨i0, hi, hz0, hz1, hz2⟩ := info_u64
  clear hc h1 h2 hbc
  go_enter Try.func52, Try.ntmps52
  go_wp2_with fail
  refine (brsize_any _ _ N _ HNI.out hN2).mono ?_
  rintro e w1 ⟨rfl, rfl⟩
  rw [← HC.out]
  go_wp2_with fail
  refine (brsize_any _ _ N _ HNI.out hN2).mono ?_
  rintro e w1 ⟨rfl, rfl⟩
  rw [← HC.out]
  go_wp2
  go_loopw [8, 9, 10] (fun l at_ i wr => ∃ j : Nat, j ≤ n ∧ at_ = .int .i64 ((width * j : Nat) : Int) ∧ i = .int .i64 (j : Int) ∧ Chg [] w wr ∧ wr.ownsRow w.heap.size 65 1 l j (nv .u64 (pk (strm 8 b) N width j))) (fun _ _ i _ => n - (intOf i).toNat)
  case atStart => exact ⟨0, Nat.zero_le _, rfl, rfl, Chg.refl _ _, ⟨rfl, .inl ⟨rfl, rfl⟩⟩⟩
  case round =>
    obtain ⟨j, hj, rfl, rfl, hcj, hoj⟩ := hrel
    have HCJ := Lib.hid hcj
    have hBw : w.heap.size ≤ wr.heap.size := hcj.size
    clear hcj
    by_cases hlt : j < n
    · obtain ⟨A0, hA0⟩ : ∃ A0, A0 = width * j := ⟨_, rfl⟩
      have hA1 : A0 + width ≤ N := by
        have h := HN.out
        have : width * (j + 1) ≤ width * n := Nat.mul_le_mul_left _ hlt
        rw [Nat.mul_add, Nat.mul_one] at this
        omega
      rw [← hA0]
      have HA := Lib.hid hA0; clear hA0
      have hlt2 : decide (j < n) = true := by simpa using hlt
      obtain ⟨ao', cap', rfl⟩ := own_shape hoj
      have HOJ := Lib.hid hoj; clear hoj
      go_wp2
      go_loop [9, 11, 12] (fun at_ v k => ∃ k' : Nat, k' ≤ width ∧ at_ = .int .i64 ((A0 + k' : Nat) : Int) ∧ k = .int .i64 (k' : Int) ∧ v = .int .u64 ((wd (strm 8 b) (A0 + k') width j : Nat) : Int)) (fun _ _ k => width - (intOf k).toNat)
      case atStart => exact ⟨0, Nat.zero_le _, rfl, rfl, by rw [Nat.add_zero, HA.out, wd_none]; rfl⟩
      case round =>
        obtain ⟨k, hk, rfl, rfl, rfl⟩ := hrel
        by_cases hkw : k < width
        · have hkw2 : decide (k < width) = true := by simpa using hkw
          obtain ⟨a, ha⟩ : ∃ a, a = A0 + k := ⟨_, rfl⟩
          have haN : a < N := by omega
          have hac : a / 8 < b.length := by omega
          rw [← ha]
          have hnext : Hid (A0 + (k + 1) = a + 1) := Lib.hid (by omega)
          have HAK := Lib.hid ha; clear ha
          obtain ⟨x, rfl, hcell⟩ := (HS.out.keep HCJ.out).at rfl (by omega)
          have hx := hcell (a / 8) hac
          clear hcell
          have hs8 : b.getD (a / 8) 0 ≤ 255 := by
            have h := HB.out (b.getD (a / 8) 0) (by simp only [List.getD, List.getElem?_eq_getElem hac]; exact List.getElem_mem hac)
            omega
          obtain ⟨s, hs⟩ : ∃ s, s = b.getD (a / 8) 0 := ⟨_, rfl⟩
          rw [← hs] at hx hs8
          obtain ⟨v, hv⟩ : ∃ v, v = wd (strm 8 b) a width j := ⟨_, rfl⟩
          have hv64 : v ≤ 18446744073709551615 := by
            have h1 := wd_lt (strm 8 b) a width j
            have hpw : 2 ^ width ≤ 2 ^ 64 := Nat.pow_le_pow_right (by decide) hw
            omega
          rw [← hv]
          have HSJ := Lib.hid hs; have HV := Lib.hid hv; clear hs hv
          have h8 := Lib.hid (bitor_eq v s (a % 8) k hs8 hv64 (by omega))
          have hfin : Hid (wd (strm 8 b) (A0 + (k + 1)) width j = v ||| (if s.testBit (a % 8) then 1 else 0) * 2 ^ k) := Lib.hid (by
            have h := tb_strm 8 b (a / 8) (a % 8) (by omega)
            rw [show 8 * (a / 8) + a % 8 = a by omega, ← HSJ.out] at h
            rw [HA.out, wd_next _ _ _ _ hkw, ← HA.out, ← HAK.out, ← HV.out, h])
          go_wp2
          rw [h8.out]
          go_round
          case rel => exact ⟨k + 1, by omega, by rw [hnext.out]; go_num, by go_num, by rw [hfin.out]⟩
          case measure => simp [intOf]; omega
        · have hkw2 : decide (k < width) = false := by simpa using hkw
          have hkk := Lib.hid (show k = width by omega)
          obtain ⟨v, hv⟩ : ∃ v, v = wd (strm 8 b) (A0 + k) width j := ⟨_, rfl⟩
          rw [← hv]
          have hvj : Hid (nv .u64 (pk (strm 8 b) N width j) ++ [.int .u64 (v : Int)] = nv .u64 (pk (strm 8 b) N width (j + 1))) := Lib.hid (by
            have e1 : width * (j + 1) ≤ A0 + k := by rw [hkk.out, HA.out, Nat.mul_add, Nat.mul_one]; exact Nat.le_refl _
            have e2 : width * (j + 1) ≤ N := by rw [Nat.mul_add, Nat.mul_one, ← HA.out]; exact hA1
            rw [hv, wd_whole _ _ _ _ e1, ← wd_whole _ N _ _ e2]
            simp [nv, pk, List.range_succ])
          clear hv
          go_wp2_with (at_builtin; refine wpList_append_own _ rfl _ _ 74 rfl w.heap.size 65 i0 (.int .u64 0) 1 8 Try.underlying74 hi hz0 hz1 hz2 rfl (by decide) _ _ _ rfl (HOJ.out.alloc _) ⟨wr.heap.size, 0, none⟩ 1 1 [.int .u64 (v : Int)] rfl rfl ?c1 ?c2 ?c3 ?c4 ?c5 ?_)
          case c2 => simp [Value.oneCell']
          case c3 => unfold maxLen; omega
          case c4 => omega
          case c5 => exact Nat.le_succ_of_le hBw
          intro v' w1 hown' hgrow _
          rw [hvj.out] at hown'
          have hg : Chg [] w w1 := (HCJ.out.alloc _).grown hgrow (fun k hk => .inr (HOJ.out.lt k hk).1)
          have HG := Lib.hid hg; have HO1 := Lib.hid hown'
          clear hgrow hg hown'
          go_wp2
          go_roundw
          case rel => exact ⟨j + 1, hlt, by rw [Nat.mul_add, Nat.mul_one, ← HA.out, ← hkk.out]; go_num, by go_num, HG.out, HO1.out⟩
          case measure => simp [intOf]; omega
    · have hlt2 : decide (j < n) = false := by simpa using hlt
      have hjn := Lib.hid (show j = n by omega)
      obtain ⟨ao', cap', rfl⟩ := own_shape hoj
      rw [hjn.out] at hoj ⊢
      rw [← HN.out]
      have HOJ := Lib.hid hoj; clear hoj
      go_wp2
      go_loop [9] (fun at_ => ∃ m : Nat, N + m ≤ 8 * b.length ∧ at_ = .int .i64 ((N + m : Nat) : Int) ∧ Hid (∀ p, p < m → (strm 8 b).testBit (N + p) = false)) (fun at_ => 8 * b.length - (intOf at_).toNat)
      case atStart => exact ⟨0, by omega, rfl, Lib.hid (fun p hp => by omega)⟩
      case round =>
        obtain ⟨m, hm, rfl, hz⟩ := hrel
        obtain ⟨a, ha⟩ : ∃ a, a = N + m := ⟨_, rfl⟩
        rw [← ha] at hm ⊢
        have HA := Lib.hid ha; clear ha
        by_cases hlt3 : a < 8 * b.length
        · have hac : a / 8 < b.length := by omega
          obtain ⟨x, rfl, hcell⟩ := (HS.out.keep HCJ.out).at rfl (by omega)
          have hx := hcell (a / 8) hac
          clear hcell
          have hs8 : b.getD (a / 8) 0 ≤ 255 := by
            have h := HB.out (b.getD (a / 8) 0) (by simp only [List.getD, List.getElem?_eq_getElem hac]; exact List.getElem_mem hac)
            omega
          obtain ⟨s, hs⟩ : ∃ s, s = b.getD (a / 8) 0 := ⟨_, rfl⟩
          rw [← hs] at hx hs8
          have hbt : (strm 8 b).testBit a = s.testBit (a % 8) := by
            have h := tb_strm 8 b (a / 8) (a % 8) (by omega)
            rwa [show 8 * (a / 8) + a % 8 = a by omega, ← hs] at h
          clear hs
          have h8 := bit8 s (a % 8) hs8
          by_cases hb : s.testBit (a % 8) = true
          · rw [if_pos hb] at h8
            have hbb : (bits BinOp.and IntKind.u8 ((s : Int) / 2 ^ (a % 8)) 1 == 1) = true := by rw [h8]; rfl
            have hf : Hid (faultOf b (width * n) = 10) := Lib.hid (by
              rw [hff.out, if_neg]
              intro h0
              have : (strm 8 b / 2 ^ N).testBit m = false := by rw [h0]; simp
              rw [Nat.testBit_div_two_pow, Nat.add_comm, ← HA.out, hbt, hb] at this
              cases this)
            clear h8 hb hbt
            go_wp2
            go_ret2
            refine ⟨.slice none 0 0, by rw [hf.out]; rfl, ?_⟩
            unfold outU
            rw [if_neg (by rw [hf.out]; decide)]
            exact ⟨HCJ.out, ⟨rfl, .inl ⟨rfl, rfl⟩⟩⟩
          · rw [if_neg hb] at h8
            have hbb : (bits BinOp.and IntKind.u8 ((s : Int) / 2 ^ (a % 8)) 1 == 1) = false := by rw [h8]; rfl
            have hz' : Hid (∀ p, p < m + 1 → (strm 8 b).testBit (N + p) = false) := Lib.hid (fun p hp => by
              by_cases e : p = m
              · rw [e, ← HA.out, hbt]; simpa using hb
              · exact hz.out p (by omega))
            clear h8 hb hbt
            go_wp2
            go_round
            case rel => exact ⟨m + 1, by have := HA.out; omega, by rw [← Nat.add_assoc, ← HA.out]; go_num, hz'⟩
            case measure => simp [intOf]; omega
        · have hf : Hid (faultOf b (width * n) = 0) := Lib.hid (by
            rw [hff.out, if_pos]
            apply Nat.eq_of_testBit_eq
            intro i
            rw [Nat.testBit_div_two_pow, Nat.zero_testBit]
            have := HA.out
            by_cases hi : i < m
            · rw [Nat.add_comm]; exact hz.out i hi
            · exact Nat.testBit_lt_two_pow (Nat.lt_of_lt_of_le (strm_lt 8 b) (Nat.pow_le_pow_right (by decide) (by omega))))
          go_wp2
          go_ret2
          refine ⟨.slice ao' n cap', by rw [hf.out]; rfl, ?_⟩
          unfold outU
          rw [if_pos hf.out]
          refine ⟨HCJ.out, ?_⟩
          rw [unpacked_length]
          unfold unpacked
          rw [← HN.out]
          exact HOJ.out

end Go.Proofs.Ytegidbbigjhapaa
