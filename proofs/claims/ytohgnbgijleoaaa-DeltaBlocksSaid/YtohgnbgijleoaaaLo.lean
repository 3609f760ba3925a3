/- Moved together from several texts. -/
import Derived.Test.YtohgnbgijleoaaaZi
import Derived.Test.YtohgnbgijleoaaaPk
import Derived.Test.YtohgnbgijleoaaaPut
import Derived.Test.YtohgnbgijleoaaaOc
import Derived.Test.YtohgnbgijleoaaaMp
namespace Go.Proofs.Ytohgnbgijleoaaa
open Go.RowKit
set_option linter.unusedVariables false
set_option linter.unusedSimpArgs false

theorem fault_packed (w : Nat) (S : List Nat) : faultOf (packed w S) (w * S.length) = 0 := by
  unfold faultOf
  rw [packed_length, if_neg (by omega), if_neg (by omega), if_pos]
  have h := strm_lt w S
  unfold packed
  rw [strm_pk]
  refine Nat.div_eq_of_lt (Nat.lt_of_le_of_lt (Nat.mod_le _ _) ?_)
  exact Nat.mod_lt _ (Nat.two_pow_pos _)

theorem unpacked_packed (w : Nat) (S : List Nat) : unpacked (packed w S) S.length w = S.map (· % 2 ^ w) := by
  rw [← pk_back w S]
  unfold unpacked
  have h := strm_lt w S
  have e : strm 8 (packed w S) = strm w S := by
    unfold packed
    rw [strm_pk, Nat.mod_eq_of_lt h, Nat.mod_eq_of_lt]
    exact Nat.lt_of_lt_of_le h (Nat.pow_le_pow_right (by decide) (by omega))
  rw [e]

theorem packed_bytes (w : Nat) (S : List Nat) : ∀ x ∈ packed w S, x < 2 ^ 8 := by
  intro x hx
  unfold packed pk at hx
  obtain ⟨j, _, rfl⟩ := List.mem_map.1 hx
  exact wd_lt _ _ _ _

/-- A number's lowest bytes, the lowest first. -/
def lo : Nat → Nat → List Nat
  | 0, _ => []
  | n + 1, v => v % 256 :: lo n (v / 256)

@[simp] theorem lo_length : ∀ n v, (lo n v).length = n
  | 0, _ => rfl
  | n + 1, v => by simp [lo, lo_length n]

theorem lo_bytes : ∀ n v, ∀ x ∈ lo n v, x < 2 ^ 8
  | 0, _ => by simp [lo]
  | n + 1, v => by
    intro x hx
    rcases List.mem_cons.1 hx with rfl | h
    · omega
    · exact lo_bytes n _ x h

theorem nm_lo : ∀ n v, v < 256 ^ n → nm (lo n v) = v
  | 0, v, h => by simp at h; subst h; rfl
  | n + 1, v, h => by
    rw [lo, nm, nm_lo n (v / 256) (by rw [Nat.pow_succ] at h; exact Nat.div_lt_of_lt_mul (by omega))]
    omega

theorem nm_lt8 : ∀ {a : List Nat}, (∀ x ∈ a, x < 256) → nm a < 256 ^ a.length
  | [], _ => by simp [nm]
  | x :: a, h => by
    have h1 := h x (by simp)
    have h2 := nm_lt8 (a := a) fun z hz => h z (by simp [hz])
    rw [nm, List.length_cons, Nat.pow_succ]
    omega

theorem low_lo : ∀ (k v : Nat), low k (v : Int) = zi (lo k v)
  | 0, v => rfl
  | k + 1, v => by
    have e : ((v : Int) / 256) = ((v / 256 : Nat) : Int) := by omega
    rw [low, lo, e, low_lo k (v / 256)]
    simp [zi]

theorem zi_app (a b : List Nat) : zi a ++ zi b = zi (a ++ b) := by simp [zi]

theorem lo_snoc : ∀ (n v : Nat), lo (n + 1) v = lo n v ++ [v / 256 ^ n % 256]
  | 0, v => by simp [lo]
  | n + 1, v => by
    have h := lo_snoc n (v / 256)
    have e : lo (n + 2) v = v % 256 :: lo (n + 1) (v / 256) := rfl
    rw [e, h]
    have e2 : lo (n + 1) v = v % 256 :: lo n (v / 256) := rfl
    rw [e2, Nat.div_div_eq_div_mul, Nat.pow_succ, Nat.mul_comm 256]
    rfl

end Go.Proofs.Ytohgnbgijleoaaa
