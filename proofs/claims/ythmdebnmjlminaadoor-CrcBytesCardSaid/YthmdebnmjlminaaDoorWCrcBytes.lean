/- The walk of the statement CrcBytes. -/
import Derived.Test.YthmdebnmjlminaaDoorRf
namespace Go.Proofs.YthmdebnmjlminaaDoor
open Go.RowKit
set_option linter.unusedVariables false

/-- One byte another one: another sum. -/
theorem crc_byte (l : List Nat) (hb : ∀ x ∈ l, x < 2 ^ 8) (k v : Nat) (hk : k < l.length) (hv : v < 2 ^ 8) (hn : v ≠ l.getD k 0) : crc l ≠ crc (l.set k v) := by
  intro h
  have h8 : l.getD k 0 < 2 ^ 8 := hb _ (getD_mem hk)
  have hx := xor_lt 8 hv h8
  have := (crc_near (l.set k v) l (by simp) (v ^^^ l.getD k 0) (8 * k) (by omega) (by simp; omega) (num_set l k v hk)).1 h.symm
  exact hn ((xor_zero_iff _ _).1 this)

set_option maxRecDepth 100000 in
set_option maxHeartbeats 1000000 in
theorem walk_CrcBytes (a0 : Option Addr) (len0 cap0 : Nat) (z0 : List Int) (a1 : Int) (a2 : Int) (w : World) (hT : Laid w) (w0 : IsRow .u8 w a0 len0 cap0 z0) (w1 : (Lit.int .i64 a1).wf = true) (w2 : (Lit.int .u8 a2).wf = true) :
    Calls Tryd.prog 5 #[.slice a0 len0 cap0, .int .i64 a1, .int .u8 a2] w fun e w' => e = .returned (.bool true) ∧ Below w.heap.size w w' := by
  obtain ⟨S, hS, rfl, hSl⟩ := w0.u8s
  have hlen := w0.len.2
  have b2 := wf_u8 w2
  obtain ⟨y, rfl⟩ := Int.eq_ofNat_of_zero_le b2.1
  have hy : y < 256 := by omega
  have HS := Lib.hid hS; have HSL := Lib.hid hSl; have HT := Lib.hid hT; have W1 := Lib.hid w1
  clear w0 w1 w2 hS hSl hT b2
  unfold maxLen at hlen
  go_enter Tryd.func5, Tryd.ntmps5
  go_wp2_with fail
  (with_reducible refine (known_any _ HT.out).mono ?_)
  rintro x w1 ⟨rfl, hk⟩
  have HC := Lib.hid hk; clear hk
  by_cases h0 : S.length = 0
  · have hb0 : ((S.length : Int) == 0) = true := by rw [h0]; rfl
    go_wp2
    go_ret
    exact ⟨rfl, HC.out.below (Nat.le_refl _) (by simp)⟩
  have hb0 : ((S.length : Int) == 0) = false := by simpa using h0
  by_cases hgt : 300 < S.length
  · have hg2 : decide ((300 : Int) < (S.length : Int)) = true := by simp; omega
    go_wp2
    go_ret
    exact ⟨rfl, HC.out.below (Nat.le_refl _) (by simp)⟩
  have hg2 : decide ((300 : Int) < (S.length : Int)) = false := by simp; omega
  by_cases hy0 : y = 0
  · have hy1 : ((y : Int) == 0) = true := by rw [hy0]; rfl
    go_wp2
    go_ret
    exact ⟨rfl, HC.out.below (Nat.le_refl _) (by simp)⟩
  have hy1 : ((y : Int) == 0) = false := by simp; omega
  obtain ⟨i0, hi, hz0, hz1, hz2⟩ := info_u8
  have hone := Lib.hid (nv_one .u8 S)
  have HO := Lib.hid (World.ownsRow_made (base := w1.heap.size) (e := 5) (size := 1) w1 #[] 0 (Nat.le_refl _) (by simp) rfl)
  go_wp2_with (at_builtin; refine wpList_append_reads _ rfl _ _ 24 24 rfl w1.heap.size 5 5 i0 (.int .u8 0) 1 Tryd.underlying24 Tryd.underlying24 hi hz0 hz1 hz2 rfl _ 0 [] rfl HO.out _ (nv .u8 S) rfl (HS.out.keep (HC.out.alloc _)) hone.out ?c1 ?c2 ?c3 ?_)
  case c1 => rw [nv_length]; unfold maxLen; omega
  case c2 => rw [nv_length]; omega
  case c3 => simp
  intro v2 w2 hown2 hgrow2
  have HC2 := Lib.hid ((HC.out.alloc _).grown hgrow2 (fun k hk => .inr (by
    simp only [Value.ownBlock, Option.some.injEq] at hk
    have := HC.out.size
    omega)))
  obtain ⟨ao, cap, rfl⟩ := own_shape hown2
  obtain ⟨g, rfl⟩ := own_some hown2 (by omega)
  have hgb := own_ge hown2 g rfl
  have HT2 := Lib.hid (HT.out.keep HC2.out)
  have HO2 := Lib.hid hown2
  have hzz : 0 + (nv .u8 S).length = S.length := by rw [nv_length]; omega
  clear hgrow2 hown2
  go_wp2_with fail
  (with_reducible refine (within_nat a1 S.length _ (by omega) (by omega) W1.out).mono ?_)
  rintro x w3 ⟨rfl, rfl⟩
  have hkl := within_lt a1 S.length (by omega)
  obtain ⟨k, hk⟩ : ∃ k, k = (a1 % (S.length : Int)).toNat := ⟨_, rfl⟩
  rw [← hk] at hkl ⊢
  clear hk
  have hc := own_cell HO2.out rfl k hkl
  have hf := HO2.out.frozenAt k
  obtain ⟨v, hv⟩ : ∃ v, v = S.getD k 0 := ⟨_, rfl⟩
  rw [← hv] at hc
  have hv8 : v < 256 := by rw [hv]; exact HSL.out _ (getD_mem hkl)
  have hst := (HO2.out.stored k (.int .u8 (((v + y) % 256 : Nat) : Int))).1
  rw [nv_set] at hst
  have HST := Lib.hid (reads_of_own hst).seen
  have HC3 := Lib.hid (HC2.out.setCell (p := ⟨g, k, none⟩) (.inr (by have := HC.out.size; simp; omega)) (.int .u8 (((v + y) % 256 : Nat) : Int)))
  have HB3 := Lib.hid (set_lt HSL.out (show (v + y) % 256 < 2 ^ 8 by omega) k)
  have HNE := Lib.hid (crc_byte S HSL.out k ((v + y) % 256) hkl (by omega) (by rw [← hv]; omega))
  have HLS := Lib.hid (show (S.set k ((v + y) % 256)).length = S.length by simp)
  have HT3 := Lib.hid (HT.out.keep HC3.out)
  clear hst hv
  have HZ3 := Lib.hid (show (w2.setCell ⟨g, k, none⟩ (.int .u8 (((v + y) % 256 : Nat) : Int))).heap.size = w2.heap.size by simp)
  go_wp2_with fail
  rw [show ((v : Int) + (y : Int)) % 256 = (((v + y) % 256 : Nat) : Int) by omega]
  obtain ⟨S2, hS2⟩ : ∃ S2, S2 = S.set k ((v + y) % 256) := ⟨_, rfl⟩
  rw [← hS2] at HST HB3 HNE HLS
  generalize w2.setCell ⟨g, k, none⟩ (.int .u8 (((v + y) % 256 : Nat) : Int)) = w3 at *
  clear hS2 hc hf hzz HO2 HO hone
  obtain ⟨c1, hc1⟩ : ∃ c, c = crc S := ⟨_, rfl⟩
  obtain ⟨c2, hc2⟩ : ∃ c, c = crc S2 := ⟨_, rfl⟩
  have hne : ((c1 : Int) == (c2 : Int)) = false := by
    have := HNE.out
    rw [← hc1, ← hc2] at this
    simp; omega
  have hne2 : ¬ ((c1 : Int) = (c2 : Int)) := by simpa using hne
  have hee : ((c2 : Int) == (c2 : Int)) = true := by simp
  have H1 := Lib.hid hc1; have H2 := Lib.hid hc2
  clear hc1 hc2
  (with_reducible refine (sum_at _ _ S _ _ HZ3.out.symm (HS.out.keep HC3.out) HSL.out HT3.out).mono ?_)
  rintro x w4 ⟨rfl, hk⟩
  have HC4 := Lib.hid (HC3.out.trans hk (by simp)); have HK4 := Lib.hid hk; clear hk
  rw [← H1.out]
  go_wp2_with fail
  (with_reducible refine (sum_at _ _ S2 _ _ rfl (HST.out.keep HK4.out) HB3.out (HT.out.keep HC4.out)).mono ?_)
  rintro x w5 ⟨rfl, hk⟩
  have HC5 := Lib.hid (HC4.out.trans hk (by simp)); have HK5 := Lib.hid (HK4.out.trans hk (by simp)); clear hk
  rw [← H2.out]
  go_wp2_with fail
  (with_reducible refine (sum_at _ _ S2 _ _ rfl (HST.out.keep HK5.out) HB3.out (HT.out.keep HC5.out)).mono ?_)
  rintro x w6 ⟨rfl, hk⟩
  have HC6 := Lib.hid (HC5.out.trans hk (by simp)); have HK6 := Lib.hid (HK5.out.trans hk (by simp)); clear hk
  rw [← H2.out]
  go_wp2_with fail
  (with_reducible refine (ref_any _ S2 _ (HST.out.keep HK6.out) HB3.out).mono ?_)
  rintro x w7 ⟨rfl, rfl⟩
  rw [← H2.out]
  go_wp2
  go_ret
  have hnn : ((c1 : Int) != (c2 : Int)) = true := by simpa using hne2
  exact ⟨by rw [← hnn]; rfl, HC6.out.below (Nat.le_refl _) (by simp)⟩

end Go.Proofs.YthmdebnmjlminaaDoor
