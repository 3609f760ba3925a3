/- The statements' own helper within (the folder's name is filled in by hand: shredderlaw11). -/
import Derived.Test.YtgfjmbjpikcffaaNv
namespace Go.Proofs.Ytgfjmbjpikcffaa
open Go.RowKit
set_option linter.unusedVariables false

set_option maxHeartbeats 400000 in
theorem within_any (a n : Int) (w : World) (hn : 1 ≤ n) (hn2 : n ≤ 4611686018427387904) (ha : -9223372036854775808 ≤ a) (ha2 : a ≤ 9223372036854775807) :
    Calls Try.prog 24 #[.int .i64 a, .int .i64 n] w fun e w' => e = .returned (.int .i64 (a % n)) ∧ w = w' := by
  have hf := tmod_fix a n hn
  have hl : -n < a.tmod n := Int.lt_tmod_of_pos a (by omega)
  have hh : a.tmod n < n := Int.tmod_lt_of_pos a (by omega)
  have HF := Lib.hid hf; clear hf
  go_enter Try.func24, Try.ntmps24
  go_wp2
  · have hlt : a.tmod n < 0 := by assumption
    have E : a.tmod n + n = a % n := by rw [HF.out, if_pos hlt]
    go_ret
    exact ⟨ret_int E, rfl⟩
  · have hlt : ¬ a.tmod n < 0 := by omega
    have E : a.tmod n = a % n := by rw [HF.out, if_neg hlt]
    go_ret
    exact ⟨ret_int E, rfl⟩

theorem within_nat (a : Int) (n : Nat) (w : World) (hn : 1 ≤ n) (hn2 : n ≤ 4611686018427387904) (h : (Lit.int .i64 a).wf = true) :
    Calls Try.prog 24 #[.int .i64 a, .int .i64 (n : Int)] w fun e w' => e = .returned (.int .i64 (((a % n).toNat : Nat) : Int)) ∧ w = w' := by
  have hb := wf_i64 h
  refine (within_any a n w (by omega) (by omega) hb.1 hb.2).mono ?_
  rintro e w' ⟨rfl, rfl⟩
  have := Int.emod_nonneg a (show (n : Int) ≠ 0 by omega)
  exact ⟨ret_int (by omega), rfl⟩

theorem within_int (a : Int) (n : Int) (m : Nat) (w : World) (hn : n = (m : Int)) (h1 : 1 ≤ m) (h2 : m ≤ 4611686018427387904) (h : (Lit.int .i64 a).wf = true) :
    Calls Try.prog 24 #[.int .i64 a, .int .i64 n] w fun e w' => e = .returned (.int .i64 (((a % m).toNat : Nat) : Int)) ∧ w = w' := by
  rw [hn]; exact within_nat a m w h1 h2 h

end Go.Proofs.Ytgfjmbjpikcffaa
