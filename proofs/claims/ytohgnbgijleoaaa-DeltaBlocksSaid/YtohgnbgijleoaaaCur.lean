/- Contracts of package cursor's small functions: width, pop, push, add, step, Fail, has, Left, End; and of the statements' own helper within. -/
import Derived.Test.YtohgnbgijleoaaaMem
import Derived.Test.YtohgnbgijleoaaaMp
namespace Go.Proofs.Ytohgnbgijleoaaa
open Go.RowKit
set_option linter.unusedVariables false

/-- What width makes of a number. -/
def widthOf (n : Int) : Int := if n < 0 ∨ 8 < n then 0 else n

/-! ### digits: a number by its bytes -/

theorem wraps_u64 (n : Int) (h0 : 0 ≤ n) (h1 : n < 2 ^ 64) : IntKind.u64.wrap n = n := by
  have e : IntKind.u64.wrap n = n % 18446744073709551616 := by simp [IntKind.wrap, IntKind.bits, IntKind.signed]
  rw [e]
  exact Int.emod_eq_of_lt h0 (by simpa using h1)

theorem or_add (v b : Int) (k : Nat) (hk : k ≤ 56) (hv0 : 0 ≤ v) (hv : v < 2 ^ k) (hb0 : 0 ≤ b) (hb : b < 256) :
    bits BinOp.or IntKind.u64 v (IntKind.u64.wrap (b * 2 ^ k)) = v + b * 2 ^ k := by
  obtain ⟨a, rfl⟩ := Int.eq_ofNat_of_zero_le hv0
  obtain ⟨c, rfl⟩ := Int.eq_ofNat_of_zero_le hb0
  have ha : a < 2 ^ k := by exact_mod_cast hv
  have hc : c < 256 := by omega
  have hp : (2 : Nat) ^ k ≤ 2 ^ 56 := Nat.pow_le_pow_right (by decide) hk
  have h1 : c * 2 ^ k < 2 ^ 64 := by
    have : c * 2 ^ k ≤ 255 * 2 ^ 56 := Nat.mul_le_mul (by omega) hp
    have e : (255 : Nat) * 2 ^ 56 < 2 ^ 64 := by decide +kernel
    omega
  have h2 : a < 2 ^ 64 := by
    have e : (2 : Nat) ^ 56 < 2 ^ 64 := by decide +kernel
    omega
  have e1 : ((c : Int) * 2 ^ k) = ((c * 2 ^ k : Nat) : Int) := by push_cast; rfl
  rw [e1, wraps_u64 _ (Int.natCast_nonneg _) (by exact_mod_cast h1), (bits_nat .u64 64 (by decide) wraps_u64 a _ h2 h1).2, Nat.or_comm, Nat.mul_comm, ← Nat.two_pow_add_eq_or_of_lt ha c, Nat.add_comm]
  simp

theorem cells2 {w : World} {d : Nat} {u v : Value} {t : TypeId} (h : w.heap[d]? = some (.cells #[u, v] t (0, 0))) :
    w.cell? ⟨d, 0, none⟩ = some u ∧ w.cell? ⟨d, 1, none⟩ = some v ∧ w.frozen? ⟨d, 0, none⟩ = false ∧ w.frozen? ⟨d, 1, none⟩ = false := by
  simp [World.cell?, World.frozen?, h]

theorem set20 {w : World} {d : Nat} {u v : Value} {t : TypeId} (h : w.heap[d]? = some (.cells #[u, v] t (0, 0))) (x : Value) :
    (w.setCell ⟨d, 0, none⟩ x).heap[d]? = some (.cells #[x, v] t (0, 0)) := heap_setCell_same w d 0 _ t x h
theorem set21 {w : World} {d : Nat} {u v : Value} {t : TypeId} (h : w.heap[d]? = some (.cells #[u, v] t (0, 0))) (x : Value) :
    (w.setCell ⟨d, 1, none⟩ x).heap[d]? = some (.cells #[u, x] t (0, 0)) := heap_setCell_same w d 1 _ t x h

theorem tagged_ne1 {w : World} {B T T' s : Nat} {v : Value} {n l : Nat} {xs : List Value} {cs : Array Value} {fr : Nat × Nat} (h : w.ownsRow B T s v n xs) (hl : w.heap[l]? = some (.cells cs T' fr)) (hT : T ≠ T') : v.ownBlock ≠ some l :=
  fun e => (tagged_of_own h).ne hl hT l e rfl

end Go.Proofs.Ytohgnbgijleoaaa
