/- Contracts of cursor's Take. -/
import Derived.Test.YtohgnbgijleoaaaPut
namespace Go.Proofs.Ytohgnbgijleoaaa
open Go.RowKit
set_option linter.unusedVariables false

section
variable {M : Nat}

theorem Reads.front {w : World} {g off cap k : Nat} {zs : List Int} (h : Reads w (.slice (some ⟨g, off, none⟩) zs.length cap) (bys zs)) (hk : k ≤ zs.length) : Reads w (.slice (some ⟨g, off, none⟩) k cap) (bys (zs.take k)) := by
  have := (h.sliced 0 k (Nat.zero_le _) hk).1
  have e : List.drop 0 (List.take k (bys zs)) = bys (zs.take k) := by simp [bys]
  rw [e] at this
  simpa [Go.sliced, Addr.add] using this

end
end Go.Proofs.Ytohgnbgijleoaaa
