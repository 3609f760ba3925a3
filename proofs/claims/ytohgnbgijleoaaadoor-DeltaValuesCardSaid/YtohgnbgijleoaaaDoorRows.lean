/-
  NARROWER THAN 'FOR EVERY INPUT', by the rows' own cells (each row's printed sentence says how): DeltaBack: laid · DeltaValues: laid · DeltaTexts: laid · DeltaOver: laid.
  DERIVED. THE GIVEN ROWS OF THIS SEAT. 4 by the template 'for every input the law returns true; each argument reads behind the call as it read before'; 0 by the template 'total and deterministic' (their statements: YtohgnbgijleoaaaDoorTotals.lean).
  GIVEN WITH THE SEED: the statements are not yours to turn. If you find one false, say at which input.
  Laid BY PROGRAM, IN A SANDBOX (cutbox-rows.mjs): the forced cells as the released guide's own fill.sh prints them over the translation 18152e7f8701d7fe… (all of the seat's roots in one cut). By AI agents, Wed Nov 11 2026. No macro, syntax, notation, axiom, sorry.
-/
import Derived.Test.YtohgnbgijleoaaaDoorChecked
import GoSem.Claim
import GoSem.ClaimJoined
import GoSem.ClaimMapViews
import Derived.JoinedTies
import Derived.KernelRfl
namespace Go.Proofs.YtohgnbgijleoaaaDoor
/- THE CELL 'sum', in the pinned program and in every row, IS THE sha256 OF THE DUMP (.gsa) THAT YtohgnbgijleoaaaDoorProg.lean LOADS. Nothing in Lean hashes anything: it is a label: what it is worth is what the hold of that sum in a sandbox is worth. -/
noncomputable def Tryd.pinned : Pinned := { name := "ytohgnbgijleoaaadoor", sum := "18152e7f8701d7fe9c51d52e4b2a7937b43b1688f5b915f6bca16b6b8931b916", checked := Tryd.checked }
namespace Rows
def none {H : Type} : Left H := { results := [], args := [] }

/- WHAT THE LISTED PACKAGE-LEVEL VARIABLES READ AS WHEN THE CALL BEGINS. Each datum BY PROGRAM (the guide's laid-datum.mjs) off the statement by which the dump's own 'gosem.cut.vars' lays the variable. In a bare row this is a premise. The card (YtohgnbgijleoaaaDoorCards.lean) ties it to the program's text. -/
def laid_shredder_plain_signs {H : Type} : DataW H := .agg [.lit (.int .i32 45), .lit (.int .i32 98), .lit (.int .i32 52), .lit (.int .i32 56), .lit (.int .i32 116)]
def laid_shredder_delta_forms {H : Type} : DataW H := .agg [.lit (.string []), .lit (.string []), .lit (.string [115]), .lit (.string [110]), .lit (.string [108, 116])]

/-- 'shredderlaw12.DeltaBack': WHATEVER THE INPUT: true; the input reads as it did. -/
def deltaBackSpec : ChangeSpec := { name := "deltaBack", fn := fun _ => fun
  | [d1, d2] => { results := [.lit (.bool true)], args := [d1, d2] }
  | _ => none }
def deltaBackRow : OpenClaim := { program := "ytohgnbgijleoaaadoor", sum := "18152e7f8701d7fe9c51d52e4b2a7937b43b1688f5b915f6bca16b6b8931b916", func := "shredder/shredderlaw12.DeltaBack", spec := "deltaBack", unfollowed := true, recurses := true, named := ["shredder/delta.forms", "shredder/plain.signs"], apart := false, laid := [("shredder/plain.signs", laid_shredder_plain_signs), ("shredder/delta.forms", laid_shredder_delta_forms)] }
def DeltaBackSaid : Prop := deltaBackRow.holds Tryd.pinned (OpenSpec.ofChange deltaBackSpec)

/-- ITS FALSE NEIGHBOUR: 'it returns false'. Refute it at one input. -/
def deltaBackWrong : ChangeSpec := { name := "deltaBack", fn := fun _ => fun
  | [d1, d2] => { results := [.lit (.bool false)], args := [d1, d2] }
  | _ => none }
def DeltaBackWrongFalsely : Prop := deltaBackRow.holds Tryd.pinned (OpenSpec.ofChange deltaBackWrong)

/-- 'shredderlaw12.DeltaValues': WHATEVER THE INPUT: true; the input reads as it did. -/
def deltaValuesSpec : ChangeSpec := { name := "deltaValues", fn := fun _ => fun
  | [d1, d2, d3, d4, d5, d6, d7] => { results := [.lit (.bool true)], args := [d1, d2, d3, d4, d5, d6, d7] }
  | _ => none }
def deltaValuesRow : OpenClaim := { program := "ytohgnbgijleoaaadoor", sum := "18152e7f8701d7fe9c51d52e4b2a7937b43b1688f5b915f6bca16b6b8931b916", func := "shredder/shredderlaw12.DeltaValues", spec := "deltaValues", unfollowed := true, recurses := true, named := ["shredder/delta.forms", "shredder/plain.signs"], apart := false, laid := [("shredder/plain.signs", laid_shredder_plain_signs), ("shredder/delta.forms", laid_shredder_delta_forms)] }
def DeltaValuesSaid : Prop := deltaValuesRow.holds Tryd.pinned (OpenSpec.ofChange deltaValuesSpec)

/-- ITS FALSE NEIGHBOUR: 'it returns false'. Refute it at one input. -/
def deltaValuesWrong : ChangeSpec := { name := "deltaValues", fn := fun _ => fun
  | [d1, d2, d3, d4, d5, d6, d7] => { results := [.lit (.bool false)], args := [d1, d2, d3, d4, d5, d6, d7] }
  | _ => none }
def DeltaValuesWrongFalsely : Prop := deltaValuesRow.holds Tryd.pinned (OpenSpec.ofChange deltaValuesWrong)

/-- 'shredderlaw12.DeltaTexts': WHATEVER THE INPUT: true; the input reads as it did. -/
def deltaTextsSpec : ChangeSpec := { name := "deltaTexts", fn := fun _ => fun
  | [d] => { results := [.lit (.bool true)], args := [d] }
  | _ => none }
def deltaTextsRow : OpenClaim := { program := "ytohgnbgijleoaaadoor", sum := "18152e7f8701d7fe9c51d52e4b2a7937b43b1688f5b915f6bca16b6b8931b916", func := "shredder/shredderlaw12.DeltaTexts", spec := "deltaTexts", unfollowed := true, recurses := true, named := ["shredder/delta.forms", "shredder/plain.signs"], apart := false, laid := [("shredder/plain.signs", laid_shredder_plain_signs), ("shredder/delta.forms", laid_shredder_delta_forms)] }
def DeltaTextsSaid : Prop := deltaTextsRow.holds Tryd.pinned (OpenSpec.ofChange deltaTextsSpec)

/-- ITS FALSE NEIGHBOUR: 'it returns false'. Refute it at one input. -/
def deltaTextsWrong : ChangeSpec := { name := "deltaTexts", fn := fun _ => fun
  | [d] => { results := [.lit (.bool false)], args := [d] }
  | _ => none }
def DeltaTextsWrongFalsely : Prop := deltaTextsRow.holds Tryd.pinned (OpenSpec.ofChange deltaTextsWrong)

/-- 'shredderlaw12.DeltaOver': WHATEVER THE INPUT: true; the input reads as it did. -/
def deltaOverSpec : ChangeSpec := { name := "deltaOver", fn := fun _ => fun
  | [d1, d2] => { results := [.lit (.bool true)], args := [d1, d2] }
  | _ => none }
def deltaOverRow : OpenClaim := { program := "ytohgnbgijleoaaadoor", sum := "18152e7f8701d7fe9c51d52e4b2a7937b43b1688f5b915f6bca16b6b8931b916", func := "shredder/shredderlaw12.DeltaOver", spec := "deltaOver", unfollowed := true, recurses := true, named := ["shredder/delta.forms", "shredder/plain.signs"], apart := false, laid := [("shredder/plain.signs", laid_shredder_plain_signs), ("shredder/delta.forms", laid_shredder_delta_forms)] }
def DeltaOverSaid : Prop := deltaOverRow.holds Tryd.pinned (OpenSpec.ofChange deltaOverSpec)

/-- ITS FALSE NEIGHBOUR: 'it returns false'. Refute it at one input. -/
def deltaOverWrong : ChangeSpec := { name := "deltaOver", fn := fun _ => fun
  | [d1, d2] => { results := [.lit (.bool false)], args := [d1, d2] }
  | _ => none }
def DeltaOverWrongFalsely : Prop := deltaOverRow.holds Tryd.pinned (OpenSpec.ofChange deltaOverWrong)

/- THE SECOND FORM. 'bulk': how many values and letters a reading holds, each counted each time it is reached (what is shared counts as often as it is met; a slice's spare places count too). A statement '..UptoSaid' is the law's where the arguments, and the package variables that the reading takes, are together of bulk at most 1048576: NARROWER than '..Said'. Prove '..Said' where nothing that the law and all that it calls make is longer than what came in: it says more and counts as full. Else prove '..UptoSaid'. A law counts once. -/
mutual
def uptoBulk {H : Type} : DataW H → Nat
  | .lit (.string bytes) => bytes.length + 1
  | .lit _ => 1
  | .nil => 1
  | .ptr d => uptoBulk d + 1
  | .slice elems spare => uptoBulkAll elems + uptoBulkAll spare + 1
  | .agg parts => uptoBulkAll parts + 1
  | .iface _ d => uptoBulk d + 1
  | .map entries => uptoBulkEntries entries + 1
  | .held _ => 1
def uptoBulkAll {H : Type} : List (DataW H) → Nat
  | [] => 0
  | d :: r => uptoBulk d + uptoBulkAll r
def uptoBulkEntries {H : Type} : List (Lit × DataW H) → Nat
  | [] => 0
  | x :: r => uptoBulkEntry x + uptoBulkEntries r
def uptoBulkEntry {H : Type} : Lit × DataW H → Nat
  | (.string bytes, d) => bytes.length + uptoBulk d + 1
  | (_, d) => uptoBulk d + 1
 end
def uptoSmall : (H : Type) → List (DataW H) → Bool := fun _ ds => decide (uptoBulkAll ds ≤ 1048576)
def OpenSpec.upto (s : _root_.Go.ChangeSpec) : _root_.Go.OpenSpec := { _root_.Go.OpenSpec.ofChange s with cond := some uptoSmall }

/-- 'shredderlaw12.DeltaBack', WHERE WHAT IT READS IS OF BULK AT MOST 1048576: true; the input reads as it did. -/
def deltaBackUptoRow : OpenClaim := { program := "ytohgnbgijleoaaadoor", sum := "18152e7f8701d7fe9c51d52e4b2a7937b43b1688f5b915f6bca16b6b8931b916", func := "shredder/shredderlaw12.DeltaBack", spec := "deltaBack", unfollowed := true, recurses := true, named := ["shredder/delta.forms", "shredder/plain.signs"], apart := false, laid := [("shredder/plain.signs", laid_shredder_plain_signs), ("shredder/delta.forms", laid_shredder_delta_forms)], narrowed := true }
def DeltaBackUptoSaid : Prop := deltaBackUptoRow.holds Tryd.pinned (OpenSpec.upto deltaBackSpec)

/-- 'shredderlaw12.DeltaValues', WHERE WHAT IT READS IS OF BULK AT MOST 1048576: true; the input reads as it did. -/
def deltaValuesUptoRow : OpenClaim := { program := "ytohgnbgijleoaaadoor", sum := "18152e7f8701d7fe9c51d52e4b2a7937b43b1688f5b915f6bca16b6b8931b916", func := "shredder/shredderlaw12.DeltaValues", spec := "deltaValues", unfollowed := true, recurses := true, named := ["shredder/delta.forms", "shredder/plain.signs"], apart := false, laid := [("shredder/plain.signs", laid_shredder_plain_signs), ("shredder/delta.forms", laid_shredder_delta_forms)], narrowed := true }
def DeltaValuesUptoSaid : Prop := deltaValuesUptoRow.holds Tryd.pinned (OpenSpec.upto deltaValuesSpec)

/-- 'shredderlaw12.DeltaTexts', WHERE WHAT IT READS IS OF BULK AT MOST 1048576: true; the input reads as it did. -/
def deltaTextsUptoRow : OpenClaim := { program := "ytohgnbgijleoaaadoor", sum := "18152e7f8701d7fe9c51d52e4b2a7937b43b1688f5b915f6bca16b6b8931b916", func := "shredder/shredderlaw12.DeltaTexts", spec := "deltaTexts", unfollowed := true, recurses := true, named := ["shredder/delta.forms", "shredder/plain.signs"], apart := false, laid := [("shredder/plain.signs", laid_shredder_plain_signs), ("shredder/delta.forms", laid_shredder_delta_forms)], narrowed := true }
def DeltaTextsUptoSaid : Prop := deltaTextsUptoRow.holds Tryd.pinned (OpenSpec.upto deltaTextsSpec)

/-- 'shredderlaw12.DeltaOver', WHERE WHAT IT READS IS OF BULK AT MOST 1048576: true; the input reads as it did. -/
def deltaOverUptoRow : OpenClaim := { program := "ytohgnbgijleoaaadoor", sum := "18152e7f8701d7fe9c51d52e4b2a7937b43b1688f5b915f6bca16b6b8931b916", func := "shredder/shredderlaw12.DeltaOver", spec := "deltaOver", unfollowed := true, recurses := true, named := ["shredder/delta.forms", "shredder/plain.signs"], apart := false, laid := [("shredder/plain.signs", laid_shredder_plain_signs), ("shredder/delta.forms", laid_shredder_delta_forms)], narrowed := true }
def DeltaOverUptoSaid : Prop := deltaOverUptoRow.holds Tryd.pinned (OpenSpec.upto deltaOverSpec)

end Rows
end Go.Proofs.YtohgnbgijleoaaaDoor
