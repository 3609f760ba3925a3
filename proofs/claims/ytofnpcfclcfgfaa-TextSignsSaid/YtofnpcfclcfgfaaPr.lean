/- A schema's text, of its forest; contract of the reference's blanks. -/
import Derived.Test.YtofnpcfclcfgfaaFo
import Derived.Test.YtofnpcfclcfgfaaTp
namespace Go.Proofs.Ytofnpcfclcfgfaa
open Go.RowKit
set_option linter.unusedVariables false

def blkS : Nat → ByteArray
  | 0 => { data := #[] }
  | n + 1 => blkS n ++ { data := #[32, 32] }
theorem blkS_size (n : Nat) : (blkS n).size = 2 * n := by
  induction n with
  | zero => rfl
  | succ n ih => rw [blkS, ByteArray.size_append, ih]; show _ + 2 = _; omega

def repW (f : F) : ByteArray := repsL.getD f.r.toNat ByteArray.empty
def kindW (f : F) : ByteArray := kindsL.getD f.k.toNat ByteArray.empty
/-- What a field's line begins with. -/
def headS (d : Nat) (f : F) : ByteArray := (if d = 0 then { data := #[109, 101, 115, 115, 97, 103, 101, 32] } else blkS d ++ repW f ++ { data := #[32] } ++ kindW f ++ { data := #[32] }) ++ f.n
def txt : Nat → Fo → ByteArray
  | _, .nil => { data := #[] }
  | d, .leaf f t => (headS d f ++ { data := #[59, 10] }) ++ txt d t
  | d, .group f k t => (headS d f ++ { data := #[32, 123, 10] } ++ txt (d + 1) k ++ blkS d ++ { data := #[125, 10] }) ++ txt d t

set_option maxHeartbeats 400000 in
theorem blanks_any (d : Nat) (w : World) (hd : d ≤ 1000) : Calls Try.prog 85 #[.int .i64 (d : Int)] w fun e w' => e = .returned (.string (blkS d)) ∧ w = w' := by
  go_enter Try.func85, Try.ntmps85
  go_wp2
  go_loop [3, 4] (fun s i => ∃ k : Nat, s = .string (blkS k) ∧ i = .int .i64 (k : Int) ∧ k ≤ d) (fun _ i => d - (intOf i).toNat)
  case atStart => exact ⟨0, rfl, rfl, by omega⟩
  case round =>
    obtain ⟨k, rfl, rfl, hk⟩ := hrel
    have hz := blkS_size k
    by_cases hkd : k < d
    · have E := Lib.hid (show blkS (k + 1) = blkS k ++ { data := #[32, 32] } from rfl)
      generalize blkS k = x at hz E ⊢
      go_wp2
      go_round
      case rel => exact ⟨k + 1, by rw [E.out], by go_num, by omega⟩
      case measure => simp [intOf]; omega
    · have e : k = d := by omega
      subst e
      go_wp2
      go_ret
      exact ⟨rfl, rfl⟩

end Go.Proofs.Ytofnpcfclcfgfaa
