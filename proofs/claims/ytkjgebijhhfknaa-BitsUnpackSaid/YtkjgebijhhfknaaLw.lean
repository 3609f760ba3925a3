/- Contracts of the statements' own helpers: within, numbers, known. -/
import Derived.Test.YtkjgebijhhfknaaRf
namespace Go.Proofs.Ytkjgebijhhfknaa
open Go.RowKit
set_option linter.unusedVariables false

theorem tmod_fix (a n : Int) (hn : 1 ≤ n) : a % n = if a.tmod n < 0 then a.tmod n + n else a.tmod n := by
  have h := Int.tmod_eq_emod (a := a) (b := n)
  have h1 := Int.emod_nonneg a (show n ≠ 0 by omega)
  have h2 := Int.emod_lt_of_pos a (show 0 < n by omega)
  have h3 : (n.natAbs : Int) = n := by omega
  rw [h]
  split <;> split <;> simp_all <;> omega

set_option maxHeartbeats 400000 in
theorem within_any (a n : Int) (w : World) (hn : 1 ≤ n) (hn2 : n ≤ 4611686018427387904) (ha : -9223372036854775808 ≤ a) (ha2 : a ≤ 9223372036854775807) :
    Calls Try.prog 12 #[.int .i64 a, .int .i64 n] w fun e w' => e = .returned (.int .i64 (a % n)) ∧ w = w' := by
  have hf := tmod_fix a n hn
  have hl : -n < a.tmod n := Int.lt_tmod_of_pos a (by omega)
  have hh : a.tmod n < n := Int.tmod_lt_of_pos a (by omega)
  have HF := Lib.hid hf; clear hf
  go_enter Try.func12, Try.ntmps12
  go_wp2
  · have hlt : a.tmod n < 0 := by assumption
    have E : a.tmod n + n = a % n := by rw [HF.out, if_pos hlt]
    go_ret
    exact ⟨ret_int E, rfl⟩
  · have hlt : ¬ a.tmod n < 0 := by omega
    have E : a.tmod n = a % n := by rw [HF.out, if_neg hlt]
    go_ret
    exact ⟨ret_int E, rfl⟩

theorem wf_i64 {a : Int} (h : (Lit.int .i64 a).wf = true) : -9223372036854775808 ≤ a ∧ a ≤ 9223372036854775807 := by
  simp [Lit.wf, IntKind.min, IntKind.max, IntKind.signed, IntKind.bits] at h
  omega

theorem within_nat (a : Int) (n : Nat) (w : World) (hn : 1 ≤ n) (hn2 : n ≤ 4611686018427387904) (h : (Lit.int .i64 a).wf = true) :
    Calls Try.prog 12 #[.int .i64 a, .int .i64 (n : Int)] w fun e w' => e = .returned (.int .i64 (((a % n).toNat : Nat) : Int)) ∧ w = w' := by
  have hb := wf_i64 h
  refine (within_any a n w (by omega) (by omega) hb.1 hb.2).mono ?_
  rintro e w' ⟨rfl, rfl⟩
  have := Int.emod_nonneg a (show (n : Int) ≠ 0 by omega)
  exact ⟨ret_int (by omega), rfl⟩

theorem within_lt (a : Int) (n : Nat) (hn : 1 ≤ n) : (a % n).toNat < n := by
  have h1 := Int.emod_nonneg a (show (n : Int) ≠ 0 by omega)
  have h2 := Int.emod_lt_of_pos a (show 0 < (n : Int) by omega)
  omega

set_option maxHeartbeats 1000000 in
theorem numbers_any (va vb : Value) (l : List Nat) (w : World) (ha : Seen w va (nv .u64 l)) (hb : Seen w vb (nv .u64 l)) :
    Calls Try.prog 17 #[va, vb] w fun e w' => e = .returned (.bool true) ∧ Chg [] w w' := by
  obtain ⟨ao, cap, rfl, hc1, hc2⟩ := ha.shape
  obtain ⟨bo, cap', rfl, hc1', hc2'⟩ := hb.shape
  rw [nv_length] at hc1 ha hc1' hb
  rw [nv_length]
  have HA := Lib.hid ha; have HB := Lib.hid hb; clear ha hb
  unfold maxLen at hc2
  go_enter Try.func17, Try.ntmps17
  go_wp2
  go_loopw [5] (fun i wr => ∃ j : Nat, j ≤ l.length ∧ i = .int .i64 (j : Int) ∧ Chg [] w wr) (fun i _ => l.length - (intOf i).toNat)
  case atStart => exact ⟨0, Nat.zero_le _, rfl, Chg.refl _ _⟩
  case round =>
    obtain ⟨j, hj, rfl, hcj⟩ := hrel
    have HCJ := Lib.hid hcj; clear hcj
    by_cases hlt : j < l.length
    · obtain ⟨x, rfl, hx⟩ := (HA.out.keep HCJ.out).at rfl (by omega)
      obtain ⟨y, rfl, hy⟩ := (HB.out.keep HCJ.out).at rfl (by omega)
      have hx := hx j hlt
      have hy := hy j hlt
      have hlt2 : decide (j < l.length) = true := by simpa using hlt
      go_wp2
      go_quiet (fail)
      go_wp2
      go_roundw
      case rel => exact ⟨j + 1, hlt, by go_num, HCJ.out.drewN _⟩
      case measure => simp [intOf]; omega
    · have hlt2 : decide (j < l.length) = false := by simpa using hlt
      go_wp2
      go_ret
      exact ⟨rfl, HCJ.out⟩

theorem packed_known : packed 2 [1, 2, 3] = [57] := by decide

set_option maxHeartbeats 1000000 in
theorem known_any (w : World) : Calls Try.prog 11 #[] w fun x w' => x = .returned (.bool true) ∧ Chg [] w w' := by
  go_enter Try.func11, Try.ntmps11
  go_wp2_with fail
  have h0 : (w.alloc (.cells #[.int .u64 1, .int .u64 2, .int .u64 3] 37)).ownsRow w.heap.size 37 1 (.slice (some ⟨w.heap.size, 0, none⟩) 3 3) 3 (nv .u64 [1, 2, 3]) := World.ownsRow_lit w _ 3 (Nat.le_refl _) (by decide) rfl
  have H0 := Lib.hid (reads_of_own h0).seen
  have HC := Lib.hid ((Chg.refl [] w).alloc (.cells #[.int .u64 1, .int .u64 2, .int .u64 3] 37))
  clear h0
  refine (pack_yes _ [1, 2, 3] 2 _ (by decide) (by decide) H0.out (by decide)).mono ?_
  rintro x w1 ⟨g, rfl, h1, h2⟩
  rw [packed_known] at h2 ⊢
  have HC1 := Lib.hid (HC.out.trans h1 (by simp))
  have hc := own_cell h2 rfl 0 (by decide)
  have hc : w1.cell? ⟨g, 0, none⟩ = some (.int .u8 57) := hc
  clear h1 h2
  go_wp2
  go_ret
  exact ⟨rfl, HC1.out⟩


theorem wf_u64 {a : Int} (h : (Lit.int .u64 a).wf = true) : 0 ≤ a ∧ a ≤ 18446744073709551615 := by
  simp [Lit.wf, IntKind.min, IntKind.max, IntKind.signed, IntKind.bits] at h
  omega
theorem wf_u8 {a : Int} (h : (Lit.int .u8 a).wf = true) : 0 ≤ a ∧ a < 256 := by
  simp [Lit.wf, IntKind.min, IntKind.max, IntKind.signed, IntKind.bits] at h
  omega

/-- A row of numbers without a sign that came in: the natural numbers that it reads as. -/
theorem IsRow.nats {k : IntKind} {w : World} {a : Option Addr} {len cap : Nat} {z : List Int} (h : IsRow k w a len cap z) (m : Nat) (hm : ∀ n : Int, (Lit.int k n).wf = true → 0 ≤ n ∧ n < m) :
    ∃ S : List Nat, Seen w (.slice a len cap) (nv k S) ∧ len = S.length ∧ ∀ x ∈ S, x < m := by
  obtain ⟨h1, h2⟩ := h.seen
  have e : (z.take len).map (Value.int k) = nv k ((z.take len).map Int.toNat) := by
    simp only [nv, List.map_map]
    apply List.map_congr_left
    intro x hx
    have := hm x (h.wf x (List.mem_of_mem_take hx))
    simp; omega
  refine ⟨(z.take len).map Int.toNat, by rw [← e]; exact h1, by simp; simpa using h2.symm, ?_⟩
  intro x hx
  obtain ⟨y, hy, rfl⟩ := List.mem_map.1 hx
  have := hm y (h.wf y (List.mem_of_mem_take hy))
  omega

theorem IsRow.u64s {w : World} {a : Option Addr} {len cap : Nat} {z : List Int} (h : IsRow .u64 w a len cap z) : ∃ S : List Nat, Seen w (.slice a len cap) (nv .u64 S) ∧ len = S.length ∧ ∀ x ∈ S, x < 2 ^ 64 :=
  h.nats (2 ^ 64) fun n hn => by have := wf_u64 hn; omega
theorem IsRow.u8s {w : World} {a : Option Addr} {len cap : Nat} {z : List Int} (h : IsRow .u8 w a len cap z) : ∃ S : List Nat, Seen w (.slice a len cap) (nv .u8 S) ∧ len = S.length ∧ ∀ x ∈ S, x < 2 ^ 8 :=
  h.nats (2 ^ 8) fun n hn => by have := wf_u8 hn; omega

end Go.Proofs.Ytkjgebijhhfknaa
