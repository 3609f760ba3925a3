/- project's part: the schema of the fields that are kept. -/
import Derived.Test.YtkbfbiklnjldgaaQt
import Derived.Test.YtkbfbiklnjldgaaA8
namespace Go.Proofs.Ytkbfbiklnjldgaa
open Go.RowKit
set_option linter.unusedVariables false

/-- How many of some fields are kept. -/
def cntK (κ : Nat → Bool) (ks : List Int) : Nat := (ks.filter fun x => κ x.toNat).length

theorem cntK_snoc (κ : Nat → Bool) (ks : List Int) (m : Nat) (x : Int) (h : ks[m]? = some x) : cntK κ (ks.take (m + 1)) = cntK κ (ks.take m) + (if κ x.toNat then 1 else 0) := by
  unfold cntK
  rw [List.take_add_one, h]
  simp only [Option.toList_some, List.filter_append, List.length_append]
  cases hx : κ x.toNat <;> simp [hx]

theorem cntK_le (κ : Nat → Bool) (ks : List Int) : cntK κ ks ≤ ks.length := List.length_filter_le _ _

/-- Field j as it is in the part. -/
def pfK (l : List F) (κ : Nat → Bool) (j : Nat) : F := { l.getD j default with c := (cntK κ (kidsOf l j) : Int) }

/-- The fields ahead of i that are kept. -/
def partTo (l : List F) (κ : Nat → Bool) (i : Nat) : List F := ((List.range i).filter κ).map (pfK l κ)

theorem partTo_len (l : List F) (κ : Nat → Bool) (i : Nat) : (partTo l κ i).length ≤ i := by
  unfold partTo
  rw [List.length_map]
  exact Nat.le_trans (List.length_filter_le _ _) (by simp)

theorem partTo_succ (l : List F) (κ : Nat → Bool) (i : Nat) : partTo l κ (i + 1) = if κ i then partTo l κ i ++ [pfK l κ i] else partTo l κ i := by
  unfold partTo
  rw [List.range_succ, List.filter_append, List.map_append]
  split
  · rename_i h; simp [h]
  · rename_i h; simp [h]

end Go.Proofs.Ytkbfbiklnjldgaa
