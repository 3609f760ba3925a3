/- Contracts of the program's and the reference's small functions: push, size, Zig, Zag. -/
import Derived.Test.YthhcnlmjcpkbnaaVi
import Derived.Test.YthhcnlmjcpkbnaaA1
import Derived.Laws.Bits64b
namespace Go.Proofs.Ythhcnlmjcpkbnaa
open Go.RowKit
set_option linter.unusedVariables false

/-- The number without a sign that stands for v, and back. -/
def zigOf (v : Int) : Nat := (if v < 0 then -2 * v - 1 else 2 * v).toNat
def zagOf (u : Nat) : Int := if u % 2 = 1 then -((u / 2 : Nat) : Int) - 1 else ((u / 2 : Nat) : Int)

theorem zig_neg {v : Int} (h : v < 0) : ((zigOf v : Nat) : Int) = -2 * v - 1 := by unfold zigOf; rw [if_pos h]; omega
theorem zig_pos {v : Int} (h : ¬ v < 0) : ((zigOf v : Nat) : Int) = 2 * v := by unfold zigOf; rw [if_neg h]; omega
theorem zig_lt {v : Int} (h : -9223372036854775808 ≤ v ∧ v ≤ 9223372036854775807) : zigOf v < 18446744073709551616 := by unfold zigOf; split <;> omega
theorem zag_zig (v : Int) : zagOf (zigOf v) = v := by
  unfold zagOf zigOf; repeat' split
  all_goals omega
theorem zig_zag (u : Nat) : zigOf (zagOf u) = u := by
  unfold zagOf zigOf; repeat' split
  all_goals omega
theorem zag_wf {u : Nat} (h : u < 18446744073709551616) : -9223372036854775808 ≤ zagOf u ∧ zagOf u ≤ 9223372036854775807 := by
  unfold zagOf; split <;> omega

theorem push_eq (v b : Nat) (hv : v < 144115188075855872) : bits BinOp.or IntKind.u64 ((v : Int) * 128) ((b : Int) % 128) = ((b % 128 + 128 * v : Nat) : Int) := by
  have e1 : (v : Int) * 128 = ((128 * v : Nat) : Int) := by omega
  have e2 : (b : Int) % 128 = ((b % 128 : Nat) : Int) := by omega
  rw [e1, e2, bits_or_u64_nat _ _ (by omega) (by omega), Nat.add_comm]
  congr 1
  exact (Nat.two_pow_add_eq_or_of_lt (i := 7) (Nat.mod_lt _ (by decide)) v).symm

set_option maxHeartbeats 400000 in
theorem push_any (v b : Nat) (w : World) (hv : v < 144115188075855872) (hb : b < 256) :
    Calls Try.prog 147 #[.int .u64 v, .int .u8 b] w fun e w' => e = .returned (.int .u64 ((b % 128 + 128 * v : Nat) : Int)) ∧ w = w' := by
  go_enter Try.func147, Try.ntmps147
  go_wp2
  go_ret
  exact ⟨ret_int (push_eq v b hv), rfl⟩

theorem shl1 (v : Int) (h : -9223372036854775808 ≤ v ∧ v ≤ 9223372036854775807) : ∃ n : Nat, IntKind.u64.wrap (IntKind.u64.wrap v * 2) = (n : Int) ∧ n < 18446744073709551616 ∧ (v < 0 → 18446744073709551615 - n = zigOf v) ∧ (¬ v < 0 → n = zigOf v) := by
  refine ⟨(IntKind.u64.wrap (IntKind.u64.wrap v * 2)).toNat, ?_, ?_, ?_, ?_⟩ <;> simp only [IntKind.wrap_u64, zigOf]
  · omega
  · omega
  · intro h; rw [if_pos h]; omega
  · intro h; rw [if_neg h]; omega

end Go.Proofs.Ythhcnlmjcpkbnaa
