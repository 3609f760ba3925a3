/- The walk of the statement WireFronts. -/
import Derived.Test.YtkbfbiklnjldgaaHG
import Derived.Test.YtkbfbiklnjldgaaHF
namespace Go.Proofs.Ytkbfbiklnjldgaa
open Go.RowKit
set_option linter.unusedVariables false
set_option linter.unusedSimpArgs false

theorem wF_by8 : ∀ (fo : Fo) (ks : List (List Tr)), ∀ x ∈ wF fo ks, x < 256
  | .nil, ks, x, hx => by simp [wF] at hx
  | .leaf f t, ks, x, hx => by
    cases ks with
    | nil => simp [wF] at hx
    | cons l r =>
      rcases List.mem_append.1 hx with hx | hx
      · unfold wField at hx
        rcases List.mem_append.1 hx with hx | hx
        · split at hx
          · exact lw_lt _ _ x hx
          · split at hx
            · exact vb_bytes _ x hx
            · simp at hx
        · obtain ⟨t', ht, hx⟩ := List.mem_flatMap.1 hx
          unfold wLeaf at hx
          repeat' split at hx
          · exact lw_lt _ _ x hx
          · exact lw_lt _ _ x hx
          · exact lw_lt _ _ x hx
          · rcases List.mem_append.1 hx with hx | hx
            · exact vb_bytes _ x hx
            · obtain ⟨b, -, rfl⟩ := List.mem_map.1 hx
              exact b.toNat_lt
      · exact wF_by8 t r x hx
  | .group f k t, ks, x, hx => by
    cases ks with
    | nil => simp [wF] at hx
    | cons l r =>
      rcases List.mem_append.1 hx with hx | hx
      · unfold wField at hx
        rcases List.mem_append.1 hx with hx | hx
        · split at hx
          · exact lw_lt _ _ x hx
          · split at hx
            · exact vb_bytes _ x hx
            · simp at hx
        · obtain ⟨t', ht, hx⟩ := List.mem_flatMap.1 hx
          exact wF_by8 k t'.k x hx
      · exact wF_by8 t r x hx

theorem wAll_by8 (fo : Fo) (L : List Tr) : ∀ x ∈ wAll fo L, x < 256 := by
  intro x hx
  unfold wAll at hx
  rcases List.mem_append.1 hx with hx | hx
  · exact vb_bytes _ x hx
  · obtain ⟨t, -, hx⟩ := List.mem_flatMap.1 hx
    exact wF_by8 fo t.k x hx

end Go.Proofs.Ytkbfbiklnjldgaa
