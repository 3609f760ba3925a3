/-
  DERIVED. GIVEN WITH THE SEED: THE CARDS: each row of YtohgnbgijleoaaaDoorRows.lean that lists a variable, with what it lists TIED to the program's text (the seventh form; the later family's looks); each row that meets fmt, with fmt's text TOLD by the authors' own Lean function (tested against real Go, not proved from fmt's source: count such statements apart). THE CARD IS WHAT COUNTS. Prove the row's statement (the work); the ties are given (YtohgnbgijleoaaaDoorTie.lean); close each card by the builder's one call (the guide's Derived/Test/ToyasCard.lean, 'card_holds'). Laid BY PROGRAM, IN A SANDBOX (cutbox-door.mjs). By AI agents, Wed Nov 11 2026. No macro, syntax, notation, axiom, sorry.
-/
import Derived.Test.YtohgnbgijleoaaaDoorRows
import GoSem.ClaimSeven
namespace Go.Proofs.YtohgnbgijleoaaaDoor
namespace Rows

/-- THE TIED CARD OF 'shredderlaw12.DeltaBack'. -/
def deltaBackCard : Claim7 := { stood := { row := deltaBackRow, standIns := [], harness := (true, "4d05a4278ab751d184af64a1ccef41d36d517c115d3f85e716999cc15138cc00"), looks := false }, kinds := [], alts := [], laidByText := true, laidKinds := [.data, .data], laidTests := true, laidLooks := .later }
def DeltaBackCardSaid : Prop := Claim7.holds Tryd.pinned (.plain (OpenSpec.ofChange deltaBackSpec)) deltaBackCard

/-- THE TIED CARD OF 'shredderlaw12.DeltaValues'. -/
def deltaValuesCard : Claim7 := { stood := { row := deltaValuesRow, standIns := [], harness := (true, "4d05a4278ab751d184af64a1ccef41d36d517c115d3f85e716999cc15138cc00"), looks := false }, kinds := [], alts := [], laidByText := true, laidKinds := [.data, .data], laidTests := true, laidLooks := .later }
def DeltaValuesCardSaid : Prop := Claim7.holds Tryd.pinned (.plain (OpenSpec.ofChange deltaValuesSpec)) deltaValuesCard

/-- THE TIED CARD OF 'shredderlaw12.DeltaTexts'. -/
def deltaTextsCard : Claim7 := { stood := { row := deltaTextsRow, standIns := [], harness := (true, "4d05a4278ab751d184af64a1ccef41d36d517c115d3f85e716999cc15138cc00"), looks := false }, kinds := [], alts := [], laidByText := true, laidKinds := [.data, .data], laidTests := true, laidLooks := .later }
def DeltaTextsCardSaid : Prop := Claim7.holds Tryd.pinned (.plain (OpenSpec.ofChange deltaTextsSpec)) deltaTextsCard

/-- THE TIED CARD OF 'shredderlaw12.DeltaOver'. -/
def deltaOverCard : Claim7 := { stood := { row := deltaOverRow, standIns := [], harness := (true, "4d05a4278ab751d184af64a1ccef41d36d517c115d3f85e716999cc15138cc00"), looks := false }, kinds := [], alts := [], laidByText := true, laidKinds := [.data, .data], laidTests := true, laidLooks := .later }
def DeltaOverCardSaid : Prop := Claim7.holds Tryd.pinned (.plain (OpenSpec.ofChange deltaOverSpec)) deltaOverCard

/-- THE SECOND FORM's CARD OF 'shredderlaw12.DeltaBack'. -/
def deltaBackUptoCard : Claim7 := { stood := { row := deltaBackUptoRow, standIns := [], harness := (true, "4d05a4278ab751d184af64a1ccef41d36d517c115d3f85e716999cc15138cc00"), looks := false }, kinds := [], alts := [], laidByText := true, laidKinds := [.data, .data], laidTests := true, laidLooks := .later }
def DeltaBackUptoCardSaid : Prop := Claim7.holds Tryd.pinned (.plain (OpenSpec.upto deltaBackSpec)) deltaBackUptoCard

/-- THE SECOND FORM's CARD OF 'shredderlaw12.DeltaValues'. -/
def deltaValuesUptoCard : Claim7 := { stood := { row := deltaValuesUptoRow, standIns := [], harness := (true, "4d05a4278ab751d184af64a1ccef41d36d517c115d3f85e716999cc15138cc00"), looks := false }, kinds := [], alts := [], laidByText := true, laidKinds := [.data, .data], laidTests := true, laidLooks := .later }
def DeltaValuesUptoCardSaid : Prop := Claim7.holds Tryd.pinned (.plain (OpenSpec.upto deltaValuesSpec)) deltaValuesUptoCard

/-- THE SECOND FORM's CARD OF 'shredderlaw12.DeltaTexts'. -/
def deltaTextsUptoCard : Claim7 := { stood := { row := deltaTextsUptoRow, standIns := [], harness := (true, "4d05a4278ab751d184af64a1ccef41d36d517c115d3f85e716999cc15138cc00"), looks := false }, kinds := [], alts := [], laidByText := true, laidKinds := [.data, .data], laidTests := true, laidLooks := .later }
def DeltaTextsUptoCardSaid : Prop := Claim7.holds Tryd.pinned (.plain (OpenSpec.upto deltaTextsSpec)) deltaTextsUptoCard

/-- THE SECOND FORM's CARD OF 'shredderlaw12.DeltaOver'. -/
def deltaOverUptoCard : Claim7 := { stood := { row := deltaOverUptoRow, standIns := [], harness := (true, "4d05a4278ab751d184af64a1ccef41d36d517c115d3f85e716999cc15138cc00"), looks := false }, kinds := [], alts := [], laidByText := true, laidKinds := [.data, .data], laidTests := true, laidLooks := .later }
def DeltaOverUptoCardSaid : Prop := Claim7.holds Tryd.pinned (.plain (OpenSpec.upto deltaOverSpec)) deltaOverUptoCard
end Rows
end Go.Proofs.YtohgnbgijleoaaaDoor
