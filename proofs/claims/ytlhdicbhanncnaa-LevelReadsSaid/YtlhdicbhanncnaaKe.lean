/- level: allowed, run, mixed. -/
import Derived.Test.YtlhdicbhanncnaaLo
import Derived.Test.YtlhdicbhanncnaaKd
import Derived.Test.YtlhdicbhanncnaaA1
import Derived.Test.YtlhdicbhanncnaaA5
import Derived.Test.YtlhdicbhanncnaaA2
namespace Go.Proofs.Ytlhdicbhanncnaa
open Go.RowKit
set_option linter.unusedVariables false
set_option linter.unusedSimpArgs false

theorem blen_le (v k : Nat) (h : v < 2 ^ k) (hk : k ≤ 16) : blen v ≤ k := by
  have hp : 2 ^ k ≤ 2 ^ 16 := Nat.pow_le_pow_right (by decide) hk
  obtain ⟨a, b, c⟩ := blen_spec v (by omega)
  rcases c with ⟨_, c⟩ | ⟨c1, c2⟩
  · omega
  · have h3 : 2 ^ (blen v - 1) < 2 ^ k := by omega
    have := (Nat.pow_lt_pow_iff_right (by decide : 1 < 2)).1 h3
    omega

theorem blen_gt (v k : Nat) (h : 2 ^ k ≤ v) (hv : v < 18446744073709551616) : k < blen v := by
  obtain ⟨a, b, c⟩ := blen_spec v hv
  exact (Nat.pow_lt_pow_iff_right (by decide : 1 < 2)).1 (by omega)

set_option maxRecDepth 100000 in
set_option maxHeartbeats 1000000 in
theorem allowed_yes (lv : Value) (l : List Nat) (width : Nat) (w : World) (hS : Seen w lv (nv .i64 l)) (hw : width ≤ 16) (hl : ∀ x ∈ l, x < 2 ^ width) (hl2 : l.length ≤ 1000000) :
    Calls Try.prog 28 #[lv, .int .i64 (width : Int)] w fun e w' => e = .returned (.bool true) ∧ Chg [] w w' := by
  obtain ⟨ao, cap, rfl, hc1, hc2⟩ := hS.shape
  rw [nv_length] at hc1 hS
  rw [nv_length]
  have hp : 2 ^ width ≤ 2 ^ 16 := Nat.pow_le_pow_right (by decide) hw
  have hS0 := Lib.hid hS
  have HL := Lib.hid hl
  obtain ⟨n, hn⟩ : ∃ n, n = l.length := ⟨_, rfl⟩
  rw [← hn] at hc1 hl2 hS0 ⊢
  have HN := Lib.hid hn
  have HP := Lib.hid hp
  clear hS hn hl hp hc2
  go_enter Try.func28, Try.ntmps28
  go_wp2_with fail
  refine (lbetween_yes _ _ _ (by omega) (by omega)).mono ?_
  rintro e w1 ⟨rfl, rfl⟩
  go_wp2
  go_loop [12] (fun i => ∃ j : Nat, j ≤ n ∧ i = .int .i64 (j : Int)) (fun i => n - (intOf i).toNat)
  case atStart => exact ⟨0, Nat.zero_le _, rfl⟩
  case round =>
    obtain ⟨j, hj, rfl⟩ := hrel
    by_cases hjn : j < n
    · have hlt : decide ((j : Int) < (n : Int)) = true := by simp; omega
      obtain ⟨g, off, rfl, hcell⟩ := hS0.out.at0 HN.out.symm (by omega)
      obtain ⟨s, hs⟩ : ∃ s, s = l.getD j 0 := ⟨_, rfl⟩
      have hx : w.cell? ⟨g, off + j, none⟩ = some (.int .i64 (s : Int)) := by rw [hs]; exact hcell j hjn
      have hsw : s < 2 ^ width := by rw [hs]; exact HL.out _ (getD_mem (by rw [← HN.out]; exact hjn))
      have hs16 : s ≤ 65536 := by have := HP.out; omega
      have hwr : IntKind.u64.wrap (s : Int) = (s : Int) := wraps64 _ (by omega) (by omega)
      have hb := blen_le s width hsw hw
      have HB := Lib.hid (bwidth_any s w (by omega))
      obtain ⟨q, hq⟩ : ∃ q, q = blen s := ⟨_, rfl⟩
      rw [← hq] at hb HB
      have hd : decide ((width : Int) < (q : Int)) = false := by simp; omega
      clear hcell hs hsw hq
      go_wp2_with fail
      refine HB.out.mono ?_
      rintro e w2 ⟨rfl, rfl⟩
      go_wp2
      go_round
      case rel => exact ⟨j + 1, by omega, by go_num⟩
      case measure => simp [intOf]; omega
    · have hlt : decide ((j : Int) < (n : Int)) = false := by simp; omega
      go_wp2
      go_ret
      exact ⟨rfl, Chg.refl _ _⟩

set_option maxRecDepth 100000 in
set_option maxHeartbeats 1000000 in
theorem run10_any (n v width : Nat) (w : World) (hn : n ≤ 1000000) (hw : width ≤ 16) (hv : v ≤ 65536) :
    Calls Try.prog 30 #[.int .i64 (n : Int), .int .i64 (v : Int), .int .i64 (width : Int)] w fun e w' => ∃ x, e = .returned x ∧ Made 5 .u8 (vb (2 * n) ++ lo ((width + 7) / 8) v) w x w' := by
  have hw1 : IntKind.u64.wrap (n : Int) = (n : Int) := wraps64 _ (by omega) (by omega)
  have hw2 : IntKind.u64.wrap (2 * (n : Int)) = ((2 * n : Nat) : Int) := by rw [wraps64 _ (by omega) (by omega)]; omega
  have hw3 : IntKind.u64.wrap (v : Int) = (v : Int) := wraps64 _ (by omega) (by omega)
  have HP := Lib.hid (put_any (.slice none 0 0) [] (2 * n) w (Seen.nil w) (by simp) (by omega))
  have hvl := vb_len64 (v := 2 * n) (by omega)
  obtain ⟨k, hk⟩ : ∃ k, k = (width + 7) / 8 := ⟨_, rfl⟩
  have hk2 : k ≤ 2 := by omega
  have HK := Lib.hid hk
  rw [← hk]
  clear hk
  go_enter Try.func30, Try.ntmps30
  go_wp2_with fail
  refine HP.out.mono ?_
  rintro e w1 ⟨x, rfl, hc1, ho1⟩
  rw [List.nil_append] at ho1
  have HC1 := Lib.hid hc1
  have HS1 := Lib.hid ((reads_of_own ho1).seen)
  clear hc1 ho1
  go_wp2_with fail
  refine (whole_any width w1 (by omega)).mono ?_
  rintro e w2 ⟨rfl, rfl⟩
  rw [← HK.out]
  go_wp2_with fail
  refine (cput_nat x (vb (2 * n)) k v w1 (by omega) (by omega) (by omega) HS1.out).mono ?_
  rintro e w3 ⟨y, rfl, hc3, ho3⟩
  have HC3 := Lib.hid hc3
  have HO3 := Lib.hid ho3
  clear hc3 ho3
  go_wp2
  go_ret
  exact ⟨y, rfl, HC1.out.trans HC3.out (by simp), own_mono HO3.out HC1.out.size⟩

theorem elem_ints : Try.prog.elem 22 = 3 := by kernel_rfl

/-- l[:hi], as a run equation, of levels. -/
theorem run_front_i {w : World} {ao : Option Addr} {len cap : Nat} {l : List Nat} (h : Seen w (.slice ao len cap) (nv .i64 l)) (hc : len ≤ cap) (hi : Nat) (h2 : hi ≤ len) :
    ∃ ao' cap', Seen w (.slice ao' hi cap') (nv .i64 (l.take hi)) ∧ ∀ wx, (Instr.slice 22 (.slice ao len cap) none (some (.int .i64 (hi : Int))) none).run Try.prog wx = .ok (.slice ao' hi cap') wx := by
  have hs := h.sliced 0 hi (Nat.zero_le _) h2
  rw [nv_take_drop, List.drop_zero] at hs
  refine ⟨_, _, hs, fun wx => ?_⟩
  obtain ⟨i0, hi0, _, hz1, _⟩ := info_int
  rw [run_slice_h wx 22 ao len cap (by rw [elem_ints]; exact Try.underlying22) .i64 hi (by omega) (by omega), elem_ints]
  simp [sizeOf, typeInfo, hi0, hz1]
  rfl

/-- l[lo:], as a run equation, of levels. -/
theorem run_back_i {w : World} {ao : Option Addr} {len cap : Nat} {l : List Nat} (h : Seen w (.slice ao len cap) (nv .i64 l)) (hl : l.length = len) (hc : len ≤ cap) (lo : Nat) (h2 : lo ≤ len) :
    ∃ ao' cap', Seen w (.slice ao' (len - lo) cap') (nv .i64 (l.drop lo)) ∧ ∀ wx, (Instr.slice 22 (.slice ao len cap) (some (.int .i64 (lo : Int))) none none).run Try.prog wx = .ok (.slice ao' (len - lo) cap') wx := by
  have hs := h.sliced lo len h2 (Nat.le_refl _)
  rw [nv_take_drop, show l.take len = l by rw [← hl, List.take_length]] at hs
  refine ⟨_, _, hs, fun wx => ?_⟩
  obtain ⟨i0, hi0, _, hz1, _⟩ := info_int
  rw [run_slice_l wx 22 ao len cap (by rw [elem_ints]; exact Try.underlying22) .i64 lo (by omega) (by omega), elem_ints]
  simp [sizeOf, typeInfo, hi0, hz1, Go.sliced]

end Go.Proofs.Ytlhdicbhanncnaa
