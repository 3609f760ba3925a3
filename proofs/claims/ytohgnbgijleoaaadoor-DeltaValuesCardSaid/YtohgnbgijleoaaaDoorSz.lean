/- Contracts: size, and what reads a number: length, join, Get; the reference's Get. -/
import Derived.Test.YtohgnbgijleoaaaDoorPg
import Derived.Test.YtohgnbgijleoaaaDoorLl
import Derived.Shelf.Strconv.Itoa0
import Derived.Lib.ItoaNum
namespace Go.Proofs.YtohgnbgijleoaaaDoor
open Go.RowKit
open Go.Shelf
set_option linter.unusedVariables false

/-- How many bits a number has. -/
def blen (v : Nat) : Nat := Lib.bitLen v

theorem blen_spec (v : Nat) (h : v < 18446744073709551616) : blen v ≤ 64 ∧ v < 2 ^ blen v ∧ (v = 0 ∧ blen v = 0 ∨ 1 ≤ blen v ∧ 2 ^ (blen v - 1) ≤ v) := by
  unfold blen Lib.bitLen
  by_cases h0 : v = 0
  · subst h0
    rw [Lib.bitLenAux_zero]
    simp
  · obtain ⟨a, b, c⟩ := Lib.bitLenAux_bounds 64 v h h0
    have hL : Lib.bitLenAux 64 v ≤ 64 := Lib.bitLen_le v 64 (Nat.le_refl _) h
    exact ⟨hL, c, .inr ⟨a, b⟩⟩

theorem blen_of (v k : Nat) (h : v < 18446744073709551616) (h1 : v < 2 ^ k) (h2 : k = 0 ∨ 2 ^ (k - 1) ≤ v) : blen v = k := by
  obtain ⟨a, b, c⟩ := blen_spec v h
  have hlt : ∀ m n : Nat, 2 ^ m < 2 ^ n → m < n := fun m n h => (Nat.pow_lt_pow_iff_right (by decide)).1 h
  rcases c with ⟨rfl, e⟩ | ⟨c1, c2⟩
  · rw [e]
    rcases h2 with h2 | h2
    · exact h2.symm
    · have := Nat.two_pow_pos (k - 1); omega
  · rcases h2 with h2 | h2
    · subst h2
      have := Nat.two_pow_pos (blen v - 1)
      omega
    · have h3 := hlt (blen v - 1) k (by omega)
      have h4 := hlt (k - 1) (blen v) (by omega)
      by_cases hk : k = 0
      · subst hk; omega
      · omega


set_option maxHeartbeats 400000 in
theorem size_any (v : Nat) (w : World) (hv : v < 18446744073709551616) :
    Calls Tryd.prog 68 #[.int .u64 v] w fun e w' => ∃ n : Nat, 1 ≤ n ∧ n ≤ 10 ∧ e = .returned (.int .i64 (n : Int)) ∧ w = w' := by
  have hv2 : (v : Int) ≤ 18446744073709551615 := by omega
  go_enter Tryd.func68, Tryd.ntmps68
  go_wp2_with fail
  refine (Any.bits_Len64 lays129 _ _ (by omega) hv2).mono ?_
  rintro e w1 ⟨rfl, rfl⟩
  have hL : Lib.bitLen v ≤ 64 := (blen_spec v hv).1
  go_wp2
  go_ret
  refine ⟨(max (Lib.bitLen v) 1 + 7 - 1) / 7, ?_, ?_, ret_int ?_, rfl⟩ <;> omega

end Go.Proofs.YtohgnbgijleoaaaDoor
