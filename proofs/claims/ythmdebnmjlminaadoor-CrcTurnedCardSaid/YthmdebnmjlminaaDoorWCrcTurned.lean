/- The walk of the statement CrcTurned. -/
import Derived.Test.YthmdebnmjlminaaDoorRf
namespace Go.Proofs.YthmdebnmjlminaaDoor
open Go.RowKit
set_option linter.unusedVariables false

theorem pow_xor (k a b : Nat) : 2 ^ k * a ^^^ 2 ^ k * b = 2 ^ k * (a ^^^ b) := by
  rw [Nat.mul_comm, Nat.mul_comm (2 ^ k) b, Nat.mul_comm (2 ^ k), ← Nat.shiftLeft_eq, ← Nat.shiftLeft_eq, ← Nat.shiftLeft_eq, Nat.shiftLeft_xor_distrib]

/-- A bit turned more. -/
theorem turn_step (L S : List Nat) (k m j : Nat) (hk : (k + j) / 8 < L.length) (hm : m / 2 ^ j % 2 = 1) (h : num L ^^^ num S = 2 ^ k * (m % 2 ^ j)) :
    num (L.set ((k + j) / 8) (L.getD ((k + j) / 8) 0 ^^^ 2 ^ ((k + j) % 8))) ^^^ num S = 2 ^ k * (m % 2 ^ (j + 1)) := by
  have e := num_set L ((k + j) / 8) (L.getD ((k + j) / 8) 0 ^^^ 2 ^ ((k + j) % 8)) hk
  rw [Nat.xor_comm (L.getD ((k + j) / 8) 0), Nat.xor_assoc, Nat.xor_self, Nat.xor_zero, ← Nat.pow_add, show 8 * ((k + j) / 8) + (k + j) % 8 = k + j by omega, Nat.xor_comm (2 ^ ((k + j) % 8))] at e
  have e2 : num (L.set ((k + j) / 8) (L.getD ((k + j) / 8) 0 ^^^ 2 ^ ((k + j) % 8))) ^^^ num S = 2 ^ (k + j) ^^^ 2 ^ k * (m % 2 ^ j) := by
    rw [← e, ← h, Nat.xor_assoc, ← Nat.xor_assoc (num L), Nat.xor_self, Nat.zero_xor]
  have e3 : m % 2 ^ (j + 1) = 2 ^ j * 1 ^^^ m % 2 ^ j := by
    rw [xor_add j 1 _ (Nat.mod_lt _ (Nat.two_pow_pos j)), Nat.mod_pow_succ, hm, Nat.add_comm]
  rw [e2, e3, ← pow_xor, Nat.mul_one, Nat.pow_add]

theorem turn_stay (m j : Nat) (hm : m / 2 ^ j % 2 = 0) : m % 2 ^ (j + 1) = m % 2 ^ j := by
  rw [Nat.mod_pow_succ, hm]; omega

theorem turn_end (L S : List Nat) (k m : Nat) (hl : S.length = L.length) (hk : k ≤ 8 * S.length) (hm : m < 4294967296) (h0 : m ≠ 0) (h : num L ^^^ num S = 2 ^ k * (m % 2 ^ 32)) : crc S ≠ crc L := by
  intro he
  rw [Nat.mod_eq_of_lt (by omega)] at h
  exact h0 ((crc_near L S hl.symm m k (by omega) (by omega) h).1 he.symm)

theorem bit_lt (q : Nat) (h : q < 8) : 2 ^ q < 2 ^ 8 := Nat.pow_lt_pow_right (by decide) h

theorem turn_bit (v q : Nat) (hv : v < 256) (h : q < 8) : bits BinOp.xor IntKind.u8 (v : Int) ((2 : Int) ^ q % 256) = ((v ^^^ 2 ^ q : Nat) : Int) := by
  have h2 := bit_lt q h
  have := u8_xor_nat v (2 ^ q) hv h2
  rw [Int.natCast_pow] at this
  rw [Int.emod_eq_of_lt (Int.pow_nonneg (by decide)) (by rw [show ((2 : Int) ^ q) = ((2 ^ q : Nat) : Int) by rw [Int.natCast_pow]; rfl]; omega)]
  exact this

set_option maxRecDepth 100000 in
set_option maxHeartbeats 1000000 in
theorem walk_CrcTurned (a0 : Option Addr) (len0 cap0 : Nat) (z0 : List Int) (a1 : Int) (a2 : Int) (w : World) (hT : Laid w) (w0 : IsRow .u8 w a0 len0 cap0 z0) (w1 : (Lit.int .i64 a1).wf = true) (w2 : (Lit.int .u32 a2).wf = true) :
    Calls Tryd.prog 4 #[.slice a0 len0 cap0, .int .i64 a1, .int .u32 a2] w fun e w' => e = .returned (.bool true) ∧ Below w.heap.size w w' := by
  obtain ⟨S, hS, rfl, hSl⟩ := w0.u8s
  have hlen := w0.len.2
  have b2 : 0 ≤ a2 ∧ a2 < 4294967296 := by
    simp [Lit.wf, IntKind.min, IntKind.max, IntKind.signed, IntKind.bits] at w2
    omega
  obtain ⟨m, rfl⟩ := Int.eq_ofNat_of_zero_le b2.1
  have hm : m < 4294967296 := by omega
  have HS := Lib.hid hS; have HSL := Lib.hid hSl; have HT := Lib.hid hT; have W1 := Lib.hid w1
  clear w0 w1 w2 hS hSl hT b2
  unfold maxLen at hlen
  go_enter Tryd.func4, Tryd.ntmps4
  go_wp2_with fail
  (with_reducible refine (known_any _ HT.out).mono ?_)
  rintro x w1 ⟨rfl, hk⟩
  have HC := Lib.hid hk; clear hk
  by_cases h0 : S.length < 5
  · have hb0 : decide ((S.length : Int) < 5) = true := by simp; omega
    go_wp2
    go_ret
    exact ⟨rfl, HC.out.below (Nat.le_refl _) (by simp)⟩
  have hb0 : decide ((S.length : Int) < 5) = false := by simp; omega
  by_cases hgt : 300 < S.length
  · have hg2 : decide ((300 : Int) < (S.length : Int)) = true := by simp; omega
    go_wp2
    go_ret
    exact ⟨rfl, HC.out.below (Nat.le_refl _) (by simp)⟩
  have hg2 : decide ((300 : Int) < (S.length : Int)) = false := by simp; omega
  by_cases hy0 : m = 0
  · have hy1 : ((m : Int) == 0) = true := by rw [hy0]; rfl
    go_wp2
    go_ret
    exact ⟨rfl, HC.out.below (Nat.le_refl _) (by simp)⟩
  have hy1 : ((m : Int) == 0) = false := by simp; omega
  obtain ⟨i0, hi, hz0, hz1, hz2⟩ := info_u8
  have hone := Lib.hid (nv_one .u8 S)
  go_wp2_with fail
  (with_reducible refine (within_int a1 _ (8 * S.length - 32) _ (by omega) (by omega) (by omega) W1.out).mono ?_)
  rintro x w2 ⟨rfl, rfl⟩
  have hkl := within_lt a1 (8 * S.length - 32) (by omega)
  obtain ⟨k, hk⟩ : ∃ k, k = (a1 % ((8 * S.length - 32 : Nat) : Int)).toNat := ⟨_, rfl⟩
  rw [← hk] at hkl ⊢
  clear hk
  have HO := Lib.hid (World.ownsRow_made (base := w1.heap.size) (e := 5) (size := 1) w1 #[] 0 (Nat.le_refl _) (by simp) rfl)
  go_wp2_with (at_builtin; refine wpList_append_reads _ rfl _ _ 24 24 rfl w1.heap.size 5 5 i0 (.int .u8 0) 1 Tryd.underlying24 Tryd.underlying24 hi hz0 hz1 hz2 rfl _ 0 [] rfl HO.out _ (nv .u8 S) rfl (HS.out.keep (HC.out.alloc _)) hone.out ?c1 ?c2 ?c3 ?_)
  case c1 => rw [nv_length]; unfold maxLen; omega
  case c2 => rw [nv_length]; omega
  case c3 => simp
  intro v2 w2 hown2 hgrow2
  have HC2 := Lib.hid ((HC.out.alloc _).grown hgrow2 (fun k hk => .inr (by
    simp only [Value.ownBlock, Option.some.injEq] at hk
    have := HC.out.size
    omega)))
  obtain ⟨ao, cap, rfl⟩ := own_shape hown2
  obtain ⟨g, rfl⟩ := own_some hown2 (by omega)
  have hgb := own_ge hown2 g rfl
  have HO2 := Lib.hid hown2
  clear hgrow2 hown2 HO
  have hs1 := HC.out.size
  go_wp2
  go_loopw [9] (fun i wr => ∃ (j : Nat) (L : List Nat), j ≤ 32 ∧ i = .int .i64 (j : Int) ∧ Hid (L.length = S.length) ∧ Hid (∀ x ∈ L, x < 2 ^ 8) ∧ Hid (num L ^^^ num S = 2 ^ k * (m % 2 ^ j)) ∧ Hid (Chg [] w wr) ∧ Hid (wr.ownsRow w1.heap.size 5 1 (.slice (some ⟨g, 0, none⟩) S.length cap) S.length (nv .u8 L))) (fun i _ => 32 - (intOf i).toNat)
  case atStart => exact ⟨0, S, by omega, rfl, Lib.hid rfl, HSL, Lib.hid (by rw [Nat.xor_self, Nat.pow_zero, Nat.mod_one, Nat.mul_zero]), HC2, HO2⟩
  case round =>
    obtain ⟨j, L, hj, rfl, HL, HLB, HN, HCR, HOR⟩ := hrel
    by_cases hlt : j < 32
    · have hlt2 : decide (j < 32) = true := by simpa using hlt
      have hand : bits BinOp.and IntKind.u32 ((m : Int) / 2 ^ j) 1 = ((m / 2 ^ j % 2 : Nat) : Int) := by
        have := and1_32 (m / 2 ^ j) (Nat.lt_of_le_of_lt (Nat.div_le_self _ _) hm)
        rwa [Int.natCast_ediv, Int.natCast_pow] at this
      by_cases hb : m / 2 ^ j % 2 = 1
      · have hb1 : (bits BinOp.and IntKind.u32 ((m : Int) / 2 ^ j) 1 == 1) = true := by rw [hand, hb]; rfl
        have hpl : (k + j) / 8 < S.length := by omega
        obtain ⟨p, hp⟩ : ∃ p, p = (k + j) / 8 := ⟨_, rfl⟩
        have hc := own_cell HOR.out HL.out p (by omega)
        have hf := HOR.out.frozenAt p
        obtain ⟨v, hv⟩ : ∃ v, v = L.getD p 0 := ⟨_, rfl⟩
        rw [← hv] at hc
        have hv8 : v < 256 := by rw [hv]; exact HLB.out _ (getD_mem (by rw [HL.out]; omega))
        have HTS := Lib.hid (turn_step L S k m j (by rw [HL.out]; omega) hb HN.out)
        rw [← hp, ← hv] at HTS
        have HV := Lib.hid hv
        clear hand hb hv
        rw [hp] at hc hf
        have HP := Lib.hid hp; clear hp
        have hq8 : (k + j) % 8 < 8 := Nat.mod_lt _ (by decide)
        have HX := Lib.hid (turn_bit v ((k + j) % 8) hv8 hq8)
        have hvx := xor_lt 8 (show v < 2 ^ 8 from hv8) (bit_lt _ hq8)
        have hst := (HOR.out.stored p (.int .u8 ((v ^^^ 2 ^ ((k + j) % 8) : Nat) : Int))).1
        rw [nv_set] at hst
        have HST := Lib.hid hst
        have HCS := Lib.hid (HCR.out.setCell (p := ⟨g, p, none⟩) (.inr (by simp; omega)) (.int .u8 ((v ^^^ 2 ^ ((k + j) % 8) : Nat) : Int)))
        have HBB := Lib.hid (set_lt HLB.out hvx p)
        have HLL := Lib.hid (show (L.set p (v ^^^ 2 ^ ((k + j) % 8))).length = S.length by rw [List.length_set, HL.out])
        rw [HP.out] at HST HCS
        clear hst hvx
        go_wp2
        go_roundw
        case rel => exact ⟨j + 1, L.set p (v ^^^ 2 ^ ((k + j) % 8)), by omega, by go_num, HLL, HBB, HTS, by rw [HX.out]; exact HCS, by rw [HX.out]; rw [HP.out]; exact HST⟩
        case measure => simp [intOf]; omega
      · have hb0 : m / 2 ^ j % 2 = 0 := by omega
        have hb1 : (bits BinOp.and IntKind.u32 ((m : Int) / 2 ^ j) 1 == 1) = false := by rw [hand, hb0]; rfl
        have HTS := Lib.hid (turn_stay m j hb0)
        clear hand hb hb0
        go_wp2
        go_roundw
        case rel => exact ⟨j + 1, L, by omega, by go_num, HL, HLB, by rw [HTS.out]; exact HN, HCR, HOR⟩
        case measure => simp [intOf]; omega
    · have hlt2 : decide (j < 32) = false := by simpa using hlt
      have HN2 : Hid (num L ^^^ num S = 2 ^ k * (m % 2 ^ 32)) := by rw [show j = 32 by omega] at HN; exact HN
      have HE := Lib.hid (turn_end L S k m HL.out.symm (by omega) hm hy0 HN2.out)
      have HT4 := Lib.hid (HT.out.keep HCR.out)
      have HSL2 := Lib.hid (reads_of_own HOR.out).seen
      clear HN2 HN
      obtain ⟨c1, hc1⟩ : ∃ c, c = crc S := ⟨_, rfl⟩
      obtain ⟨c2, hc2⟩ : ∃ c, c = crc L := ⟨_, rfl⟩
      have hne2 : ¬ ((c1 : Int) = (c2 : Int)) := by
        have := HE.out
        rw [← hc1, ← hc2] at this
        omega
      have H1 := Lib.hid hc1; have H2 := Lib.hid hc2
      clear hc1 hc2
      go_wp2_with fail
      (with_reducible refine (sum_at _ _ S _ _ rfl (HS.out.keep HCR.out) HSL.out HT4.out).mono ?_)
      rintro x w4 ⟨rfl, hk⟩
      have HC4 := Lib.hid (HCR.out.trans hk (by simp)); have HK4 := Lib.hid hk; clear hk
      rw [← H1.out]
      go_wp2_with fail
      (with_reducible refine (sum_at _ _ L _ _ rfl (HSL2.out.keep HK4.out) HLB.out (HT.out.keep HC4.out)).mono ?_)
      rintro x w5 ⟨rfl, hk⟩
      have HC5 := Lib.hid (HC4.out.trans hk (by simp)); clear hk
      rw [← H2.out]
      go_wp2
      go_ret
      have hnn : ((c1 : Int) != (c2 : Int)) = true := by simpa using hne2
      exact ⟨by rw [← hnn]; rfl, HC5.out.below (Nat.le_refl _) (by simp)⟩

end Go.Proofs.YthmdebnmjlminaaDoor
