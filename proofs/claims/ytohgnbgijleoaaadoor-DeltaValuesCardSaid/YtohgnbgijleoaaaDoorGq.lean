/- A number that is read is one of 64 bits. -/
import Derived.Test.YtohgnbgijleoaaaDoorGt
namespace Go.Proofs.YtohgnbgijleoaaaDoor
open Go.RowKit
set_option linter.unusedVariables false

theorem gv_lt (b : List Nat) (hb : ∀ x ∈ b, x < 2 ^ 8) : gv b < 18446744073709551616 := by
  unfold gv
  split
  · rename_i h
    have h1 := gl_len 0 b (by omega) h
    have h2 := vv_lt (b.take (gl 0 b).1)
    have h3 := gl_nine b h
    have hl : (b.take (gl 0 b).1).length = (gl 0 b).1 := by rw [List.length_take]; omega
    rw [hl] at h2
    by_cases h10 : (gl 0 b).1 = 10
    · have e : b.take (gl 0 b).1 = (b.take (gl 0 b).1).take 9 ++ [(b.take (gl 0 b).1).getD 9 0] := by
        have h9 : 9 < (b.take (gl 0 b).1).length := by omega
        conv => lhs; rw [← List.take_append_drop 9 (b.take (gl 0 b).1)]
        congr 1
        rw [List.drop_eq_getElem_cons h9, List.drop_eq_nil_of_le (by omega)]
        rw [List.getD, List.getElem?_eq_getElem h9]; rfl
      have h4 := vv_lt ((b.take (gl 0 b).1).take 9)
      have hl9 : ((b.take (gl 0 b).1).take 9).length = 9 := by rw [List.length_take]; omega
      have h5 : vv (b.take (gl 0 b).1) = vv ((b.take (gl 0 b).1).take 9) + 128 ^ 9 * vv [(b.take (gl 0 b).1).getD 9 0] := by
        conv => lhs; rw [e]
        rw [vv_append, hl9]
      rw [hl9] at h4
      have h6 : vv [(b.take (gl 0 b).1).getD 9 0] ≤ 1 := by simp only [vv]; omega
      have h7 : 128 ^ 9 * vv [(b.take (gl 0 b).1).getD 9 0] ≤ 128 ^ 9 * 1 := Nat.mul_le_mul_left _ h6
      have e9 : (128 : Nat) ^ 9 = 9223372036854775808 := by decide
      rw [e9] at h4 h5 h7
      omega
    · have h8 : 128 ^ (gl 0 b).1 ≤ 128 ^ 9 := Nat.pow_le_pow_right (by decide) (by omega)
      have e9 : (128 : Nat) ^ 9 = 9223372036854775808 := by decide
      rw [e9] at h8
      omega
  · decide

end Go.Proofs.YtohgnbgijleoaaaDoor
