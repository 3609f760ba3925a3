/- level's reference: Decode of anything. -/
import Derived.Test.YtlhdicbhanncnaaEl
namespace Go.Proofs.Ytlhdicbhanncnaa
open Go.RowKit
set_option linter.unusedVariables false
set_option linter.unusedSimpArgs false

theorem rdecode10_any (bv : Value) (b : List Nat) (n wd : Int) (w : World) (hS : Seen w bv (nv .u8 b)) (hb : ∀ x ∈ b, x < 256) (hbl : b.length ≤ 1000000000) :
    Calls Try.prog 9 #[bv, .int .i64 n, .int .i64 wd] w (DecOut b n wd w) := by
  by_cases h : n < 0 ∨ 4000 < n ∨ wd < 0 ∨ 16 < wd
  · have e : decA b n wd = (1, []) := by unfold decA; rw [if_pos h]
    refine (rdec_args bv n wd w h).mono ?_
    rintro y w' ⟨rfl, rfl⟩
    exact DecOut.bad e rfl (Chg.refl _ _)
  · obtain ⟨n', rfl⟩ : ∃ n' : Nat, n = (n' : Int) := ⟨n.toNat, by omega⟩
    obtain ⟨wd', rfl⟩ : ∃ wd' : Nat, wd = (wd' : Int) := ⟨wd.toNat, by omega⟩
    by_cases h0 : wd' = 0
    · subst h0
      have e : decA b (n' : Int) ((0 : Nat) : Int) = zOut b n' := by
        unfold decA zOut
        rw [if_neg (by omega), if_pos (show ((0 : Nat) : Int) = 0 from rfl)]
        simp
      refine (rdec_zero bv b n' w (by omega) hS hb hbl).mono ?_
      rintro y w' ⟨v, rfl, hm⟩
      unfold DecOut
      rw [e]
      exact ⟨v, rfl, hm⟩
    · exact rdec_yes bv b n' wd' w (by omega) (by omega) hS hb hbl

end Go.Proofs.Ytlhdicbhanncnaa
