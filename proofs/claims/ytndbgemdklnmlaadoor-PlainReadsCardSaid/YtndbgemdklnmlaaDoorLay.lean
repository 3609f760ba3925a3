/- What the listed variable (the signs of plain) gives the walks. -/
import Derived.Test.YtndbgemdklnmlaaDoorNv
import Derived.LaidMore
import Derived.LaidLaws
import Derived.LaidHandle
import Derived.MakeChecks
import Derived.Lib.LaidTab
namespace Go.Proofs.YtndbgemdklnmlaaDoor
open Go.RowKit
set_option linter.unusedVariables false

def sigZ : List Int := [45, 98, 52, 56, 116]

/-- What the walks lean on: the signs' cells. -/
structure Laid (w : World) : Prop where
  size : 0 < w.heap.size
  cell : ∀ i, i < 5 → w.cell? ⟨0, i, none⟩ = some (.int .i32 (sigZ.getD i 0))

def laidList : List (String × DataW Unit) := [("shredder/plain.signs", Rows.laid_shredder_plain_signs)]

theorem gSigns : Tryd.prog.globalNamed "shredder/plain.signs" = some 0 := by kernel_rfl
theorem tSigns : (Tryd.prog.globals[0]?).map (·.type) = some 65 := by kernel_rfl

theorem laid_of {W : World} (h : laidMetH Tryd.prog laidList W) : Laid W := by
  rw [MakeChecks.laidMetH_plain _ _ _ (by kernel_rfl)] at h
  have h' : laidMet Tryd.prog [("shredder/plain.signs", Lib.tabData .i32 sigZ)] W := h
  have hT := Lib.tabIs_of_head gSigns tSigns Tryd.underlying65 Tryd.underlying21 (by kernel_rfl) (by kernel_rfl) h'
  have hc : ∀ i, i < 5 → W.cell? ⟨0, i, none⟩ = some (.int .i32 (sigZ.getD i 0)) := fun i hi => hT.cell gSigns i (by simpa [sigZ] using hi)
  exact ⟨World.block_lt_of_cell? W ⟨0, 0, none⟩ (hc 0 (by decide)), hc⟩

theorem door_met (os : Os) (args : Array Value) : laidMetH Tryd.prog laidList ((World.doorLaid Tryd.prog 400 os).forCall (fun _ _ => 0) ⟨#[], args, []⟩).memory :=
  laidMetH_of_parts3 (fuel := 8) (laidMet_of_run' 8 (by kernel_rfl) (by kernel_rfl)) (by kernel_rfl) (by kernel_rfl)

theorem Laid.keep {w w' : World} (h : Laid w) (hc : Chg [] w w') : Laid w' :=
  ⟨Nat.lt_of_lt_of_le h.size hc.size, fun i hi => hc.cell (h.cell i hi) (by simp)⟩

theorem Laid.own {S : List Nat} {w w' : World} (h : Laid w) (hc : Chg S w w') (hS : 0 ∉ S) : Laid w' :=
  ⟨Nat.lt_of_lt_of_le h.size hc.size, fun i hi => hc.cell (h.cell i hi) hS⟩

end Go.Proofs.YtndbgemdklnmlaaDoor
