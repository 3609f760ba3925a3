/- What the listed variable (the table of shares) gives the walks. -/
import Derived.Test.YthmdebnmjlminaaDoorNv
import Derived.LaidMore
import Derived.LaidLaws
import Derived.LaidHandle
import Derived.MakeChecks
import Derived.Lib.LaidTab
namespace Go.Proofs.YthmdebnmjlminaaDoor
open Go.RowKit
set_option linter.unusedVariables false

def tabZ : List Int := [0, 498536548, 997073096, 651767980, 1994146192, 1802195444, 1303535960, 1342533948, 3988292384, 4027552580, 3604390888, 3412177804, 2607071920, 2262029012, 2685067896, 3183342108]

/-- What the walks lean on: the table's cells. -/
structure Laid (w : World) : Prop where
  size : 0 < w.heap.size
  cell : ∀ i, i < 16 → w.cell? ⟨0, i, none⟩ = some (.int .u32 (tabZ.getD i 0))

def laidList : List (String × DataW Unit) := [("shredder/crc.shares", Rows.laid_shredder_crc_shares)]

theorem gShares : Tryd.prog.globalNamed "shredder/crc.shares" = some 0 := by kernel_rfl
theorem tShares : (Tryd.prog.globals[0]?).map (·.type) = some 38 := by kernel_rfl

theorem laid_of {W : World} (h : laidMetH Tryd.prog laidList W) : Laid W := by
  rw [MakeChecks.laidMetH_plain _ _ _ (by kernel_rfl)] at h
  have h' : laidMet Tryd.prog [("shredder/crc.shares", Lib.tabData .u32 tabZ)] W := h
  have hT := Lib.tabIs_of_head gShares tShares Tryd.underlying38 Tryd.underlying25 (by kernel_rfl) (by kernel_rfl) h'
  have hc : ∀ i, i < 16 → W.cell? ⟨0, i, none⟩ = some (.int .u32 (tabZ.getD i 0)) := fun i hi => hT.cell gShares i (by simpa [tabZ] using hi)
  exact ⟨World.block_lt_of_cell? W ⟨0, 0, none⟩ (hc 0 (by decide)), hc⟩

theorem door_met (os : Os) (args : Array Value) : laidMetH Tryd.prog laidList ((World.doorLaid Tryd.prog 400 os).forCall (fun _ _ => 0) ⟨#[], args, []⟩).memory :=
  laidMetH_of_parts3 (fuel := 8) (laidMet_of_run' 8 (by kernel_rfl) (by kernel_rfl)) (by kernel_rfl) (by kernel_rfl)

theorem Laid.keep {w w' : World} (h : Laid w) (hc : Chg [] w w') : Laid w' :=
  ⟨Nat.lt_of_lt_of_le h.size hc.size, fun i hi => hc.cell (h.cell i hi) (by simp)⟩

theorem Laid.own {S : List Nat} {w w' : World} (h : Laid w) (hc : Chg S w w') (hS : 0 ∉ S) : Laid w' :=
  ⟨Nat.lt_of_lt_of_le h.size hc.size, fun i hi => hc.cell (h.cell i hi) hS⟩

end Go.Proofs.YthmdebnmjlminaaDoor
