/- Contracts of cursor's carry (as Get and as Put call it), Get, Take, Put. -/
import Derived.Test.YtohgnbgijleoaaaRd
namespace Go.Proofs.Ytohgnbgijleoaaa
open Go.RowKit
set_option linter.unusedVariables false

/-- A number by its bytes, the lowest first. -/
def num : List Int → Int
  | [] => 0
  | z :: zs => z + 256 * num zs

/-- Bytes are from 0 to 255. -/
def Wf (zs : List Int) : Prop := ∀ z, z ∈ zs → 0 ≤ z ∧ z < 256

theorem Wf.drop {zs : List Int} (h : Wf zs) (k : Nat) : Wf (zs.drop k) := fun z hz => h z (List.mem_of_mem_drop hz)
theorem Wf.take {zs : List Int} (h : Wf zs) (k : Nat) : Wf (zs.take k) := fun z hz => h z (List.mem_of_mem_take hz)

theorem num_bound : ∀ (zs : List Int), Wf zs → 0 ≤ num zs ∧ num zs < 2 ^ (8 * zs.length)
  | [], _ => by simp [num]
  | z :: zs, h => by
    have h1 := num_bound zs (fun y hy => h y (by simp [hy]))
    have h2 := h z (by simp)
    have e : (2 : Int) ^ (8 * (zs.length + 1)) = 256 * 2 ^ (8 * zs.length) := by rw [Nat.mul_add, Int.pow_add]; omega
    simp only [num, List.length_cons, e]
    omega

theorem num_snoc : ∀ (zs : List Int) (z : Int), num (zs ++ [z]) = num zs + z * 2 ^ (8 * zs.length)
  | [], z => by simp [num]
  | y :: zs, z => by
    have e : (2 : Int) ^ (8 * (zs.length + 1)) = 256 * 2 ^ (8 * zs.length) := by rw [Nat.mul_add, Int.pow_add]; omega
    simp only [List.cons_append, num, num_snoc zs z, List.length_cons, e, Int.mul_add, Int.add_assoc]
    rw [Int.mul_left_comm]

theorem drop_cons {zs : List Int} {i : Nat} (h : i < zs.length) : ∃ z, zs.drop i = z :: zs.drop (i + 1) ∧ zs.take (i + 1) = zs.take i ++ [z] ∧ z ∈ zs :=
  ⟨zs[i], List.drop_eq_getElem_cons h, by rw [List.take_succ_eq_append_getElem h], List.getElem_mem h⟩

section
variable {M : Nat}

/-- A Reader gave its first k bytes as a number. -/
theorem width_nat (n : Int) : ∃ k : Nat, widthOf n = (k : Int) ∧ k ≤ 8 := by
  unfold widthOf
  by_cases h : n < 0 ∨ 8 < n
  · exact ⟨0, by rw [if_pos h]; rfl, by omega⟩
  · exact ⟨n.toNat, by rw [if_neg h]; omega, by omega⟩

end
end Go.Proofs.Ytohgnbgijleoaaa
