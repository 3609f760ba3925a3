/- Contracts of the program's and the reference's small functions: push, size, Zig, Zag. -/
import Derived.Test.YtohgnbgijleoaaaDoorVi
import Derived.Test.YtohgnbgijleoaaaDoorMo
import Derived.Laws.Bits64b
namespace Go.Proofs.YtohgnbgijleoaaaDoor
open Go.RowKit
set_option linter.unusedVariables false

/-- The number without a sign that stands for v, and back. -/
def zigOf (v : Int) : Nat := (if v < 0 then -2 * v - 1 else 2 * v).toNat
def zagOf (u : Nat) : Int := if u % 2 = 1 then -((u / 2 : Nat) : Int) - 1 else ((u / 2 : Nat) : Int)

theorem zig_neg {v : Int} (h : v < 0) : ((zigOf v : Nat) : Int) = -2 * v - 1 := by unfold zigOf; rw [if_pos h]; omega
theorem zig_pos {v : Int} (h : ¬ v < 0) : ((zigOf v : Nat) : Int) = 2 * v := by unfold zigOf; rw [if_neg h]; omega
theorem zig_lt {v : Int} (h : -9223372036854775808 ≤ v ∧ v ≤ 9223372036854775807) : zigOf v < 18446744073709551616 := by unfold zigOf; split <;> omega
theorem zag_zig (v : Int) : zagOf (zigOf v) = v := by
  unfold zagOf zigOf; repeat' split
  all_goals omega
theorem zig_zag (u : Nat) : zigOf (zagOf u) = u := by
  unfold zagOf zigOf; repeat' split
  all_goals omega
theorem zag_wf {u : Nat} (h : u < 18446744073709551616) : -9223372036854775808 ≤ zagOf u ∧ zagOf u ≤ 9223372036854775807 := by
  unfold zagOf; split <;> omega

theorem push_eq (v b : Nat) (hv : v < 144115188075855872) : bits BinOp.or IntKind.u64 ((v : Int) * 128) ((b : Int) % 128) = ((b % 128 + 128 * v : Nat) : Int) := by
  have e1 : (v : Int) * 128 = ((128 * v : Nat) : Int) := by omega
  have e2 : (b : Int) % 128 = ((b % 128 : Nat) : Int) := by omega
  rw [e1, e2, bits_or_u64_nat _ _ (by omega) (by omega), Nat.add_comm]
  congr 1
  exact (Nat.two_pow_add_eq_or_of_lt (i := 7) (Nat.mod_lt _ (by decide)) v).symm

set_option maxHeartbeats 400000 in
theorem push_any (v b : Nat) (w : World) (hv : v < 144115188075855872) (hb : b < 256) :
    Calls Tryd.prog 97 #[.int .u64 v, .int .u8 b] w fun e w' => e = .returned (.int .u64 ((b % 128 + 128 * v : Nat) : Int)) ∧ w = w' := by
  go_enter Tryd.func97, Tryd.ntmps97
  go_wp2
  go_ret
  exact ⟨ret_int (push_eq v b hv), rfl⟩

theorem shl1 (v : Int) (h : -9223372036854775808 ≤ v ∧ v ≤ 9223372036854775807) : ∃ n : Nat, IntKind.u64.wrap (IntKind.u64.wrap v * 2) = (n : Int) ∧ n < 18446744073709551616 ∧ (v < 0 → 18446744073709551615 - n = zigOf v) ∧ (¬ v < 0 → n = zigOf v) := by
  refine ⟨(IntKind.u64.wrap (IntKind.u64.wrap v * 2)).toNat, ?_, ?_, ?_, ?_⟩ <;> simp only [IntKind.wrap_u64, zigOf]
  · omega
  · omega
  · intro h; rw [if_pos h]; omega
  · intro h; rw [if_neg h]; omega

set_option maxHeartbeats 400000 in
theorem zig_any (v : Int) (w : World) (h : (Lit.int .i64 v).wf = true) :
    Calls Tryd.prog 54 #[.int .i64 v] w fun e w' => e = .returned (.int .u64 (zigOf v : Nat)) ∧ w = w' := by
  have hb := wf_i64 h
  obtain ⟨n, e1, e2, e3, e4⟩ := shl1 v hb
  have E1 := Lib.hid e1; have E3 := Lib.hid e3; have E4 := Lib.hid e4
  clear e1 e3 e4
  go_enter Tryd.func54, Tryd.ntmps54
  go_wp2
  · have hlt : v < 0 := by assumption
    go_ret
    refine ⟨ret_int ?_, rfl⟩
    rw [E1.out, show IntKind.u64.max = 18446744073709551615 from rfl, not64 n e2, E3.out hlt]
  · have hlt : ¬ v < 0 := by omega
    go_ret
    refine ⟨ret_int ?_, rfl⟩
    rw [E1.out, E4.out (by omega)]

set_option maxHeartbeats 400000 in
theorem rzig_any (v : Int) (w : World) (h : (Lit.int .i64 v).wf = true) :
    Calls Tryd.prog 42 #[.int .i64 v] w fun e w' => e = .returned (.int .u64 (zigOf v : Nat)) ∧ w = w' := by
  have hb := wf_i64 h
  obtain ⟨n, e1, e2, e3, e4⟩ := shl1 v hb
  have E1 := Lib.hid e1; have E3 := Lib.hid e3; have E4 := Lib.hid e4
  clear e1 e3 e4
  go_enter Tryd.func42, Tryd.ntmps42
  go_wp2
  go_ret
  refine ⟨ret_int ?_, rfl⟩
  rw [E1.out]
  by_cases hlt : v < 0
  · have e : v / 9223372036854775808 = -1 := by omega
    rw [e, show IntKind.u64.wrap (-1) = 18446744073709551615 from rfl, xor_comm64, not64 n e2, E3.out hlt]
  · have e : v / 9223372036854775808 = 0 := by omega
    rw [e, show IntKind.u64.wrap 0 = 0 from rfl, xor0_64 n e2, E4.out (by omega)]

set_option maxHeartbeats 400000 in
theorem zag_any (u : Nat) (w : World) (h : u < 18446744073709551616) :
    Calls Tryd.prog 92 #[.int .u64 u] w fun e w' => e = .returned (.int .i64 (zagOf u)) ∧ w = w' := by
  by_cases hu : u % 2 = 1
  · have ha : (bits BinOp.and IntKind.u64 (u : Int) 1 == 1) = true := by rw [and1_64 u h, hu]; rfl
    have HU := Lib.hid hu; clear hu
    go_enter Tryd.func92, Tryd.ntmps92
    go_wp2
    go_ret
    refine ⟨ret_int ?_, rfl⟩
    rw [show (u : Int) / 2 = ((u / 2 : Nat) : Int) by omega, noti64 _ (by omega)]
    unfold zagOf
    rw [if_pos HU.out]
  · have ha : (bits BinOp.and IntKind.u64 (u : Int) 1 == 1) = false := by rw [and1_64 u h, show u % 2 = 0 by omega]; rfl
    have HU := Lib.hid hu; clear hu
    go_enter Tryd.func92, Tryd.ntmps92
    go_wp2
    go_ret
    refine ⟨ret_int ?_, rfl⟩
    unfold zagOf
    rw [if_neg HU.out]
    omega

set_option maxHeartbeats 400000 in
theorem rzag_any (u : Nat) (w : World) (h : u < 18446744073709551616) :
    Calls Tryd.prog 50 #[.int .u64 u] w fun e w' => e = .returned (.int .i64 (zagOf u)) ∧ w = w' := by
  go_enter Tryd.func50, Tryd.ntmps50
  go_wp2
  go_ret
  refine ⟨ret_int ?_, rfl⟩
  rw [and1_64 u h, show (u : Int) / 2 = ((u / 2 : Nat) : Int) by omega]
  unfold zagOf
  by_cases hu : u % 2 = 1
  · rw [if_pos hu, hu, show wrap64 (-wrap64 ((1 : Nat) : Int)) = -1 by kernel_rfl, xor_commi64, noti64 _ (by omega)]
  · rw [if_neg hu, show u % 2 = 0 by omega, show wrap64 (-wrap64 ((0 : Nat) : Int)) = 0 by kernel_rfl, xor0_i64 _ (by omega)]

end Go.Proofs.YtohgnbgijleoaaaDoor
