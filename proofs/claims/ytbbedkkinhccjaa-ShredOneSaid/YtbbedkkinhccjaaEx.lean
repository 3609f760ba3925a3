/- Moved together from several texts. -/
import Derived.Test.YtbbedkkinhccjaaA1
namespace Go.Proofs.Ytbbedkkinhccjaa
open Go.RowKit
set_option linter.unusedVariables false
set_option linter.unusedSimpArgs false

theorem extract_str (s : ByteArray) (a b : Nat) (hb : b ≤ s.size) : s.extract a b = str (((bl s).take b).drop a) := by
  cases s with
  | mk d =>
    have e : ∀ l : List UInt8, l.map (fun x => UInt8.ofNat x.toNat) = l := fun l => by
      induction l with
      | nil => rfl
      | cons x t ih => simp
    simp only [bl, str, ← List.map_take, ← List.map_drop, List.map_map]
    have e2 : (UInt8.ofNat ∘ fun x : UInt8 => x.toNat) = fun x => UInt8.ofNat x.toNat := rfl
    rw [e2, e]
    apply ByteArray.ext
    apply Array.ext'
    simp [ByteArray.data_extract, Array.toList_extract, List.extract]
    rw [List.drop_take]

end Go.Proofs.Ytbbedkkinhccjaa
